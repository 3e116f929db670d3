/- The laws' own functions over forests. -/
import Derived.Test.YtcpffonenhhfoabMk7
import Derived.Test.YtcpffonenhhfoabToInt6
namespace Go.Proofs.Ytcpffonenhhfoab
open Go.RowKit

/-- how many numbers the lists have -/
def lnS (ts : List (List Int)) : Nat := (ts.map List.length).sum
theorem lnS_snoc (ts : List (List Int)) (t : List Int) : lnS (ts ++ [t]) = lnS ts + t.length := by simp [lnS]
theorem lnS_take {ts : List (List Int)} {k : Nat} {t : List Int} (h : ts[k]? = some t) : lnS (ts.take (k + 1)) = lnS (ts.take k) + t.length := by
  rw [take_snocF ts k t h, lnS_snoc]
theorem lnS_take_le (ts : List (List Int)) (k : Nat) : lnS (ts.take k) ≤ lnS ts := by
  have : lnS ts = lnS (ts.take k) + lnS (ts.drop k) := by
    conv => lhs; rw [← List.take_append_drop k ts]
    rw [lnS, List.map_append, List.sum_append]
    rfl
  omega
theorem lnS_at {ts : List (List Int)} {k : Nat} {t : List Int} (h : ts[k]? = some t) : lnS (ts.take k) + t.length ≤ lnS ts := by
  rw [← lnS_take h]
  exact lnS_take_le ts (k + 1)
theorem lnS_mem {ts : List (List Int)} {t : List Int} (h : t ∈ ts) : t.length ≤ lnS ts := by
  obtain ⟨k, hk⟩ := List.mem_iff_getElem?.1 h
  have := lnS_at hk
  omega
theorem rn_lnS (R : List Rw) : rn R = lnS (rts R) := by
  induction R with
  | nil => rfl
  | cons r R ih => simp only [rn, ih]; simp [lnS, rts]
theorem lnS_zero (ts : List (List Int)) : lnS (ts.take 0) = 0 := by simp [lnS]

/-- what is left of the room -/
def szv (n : Nat) (ts : List (List Int)) : Int := if n + lnS ts ≤ 1048576 then 1048576 - (n : Int) - (lnS ts : Int) else -1

theorem szIntS_yes (n : Nat) (a : Option Addr) (c : Nat) (l : Int) (h : (n : Int) ≤ l) (hl : l ≤ 1048576) (w : World) : Calls Try.prog 43 #[.slice a n c, .int .i64 l] w fun e w' => e = .returned (.int .i64 (l - (n : Int))) ∧ w' = w := by
  have d1 : decide (l - (n : Int) < 0) = false := decide_eq_false (by omega)
  go_enter Try.func43, Try.ntmps43
  go_wp2
  go_ret
  exact ⟨rfl, rfl⟩
theorem szIntS_no (n : Nat) (a : Option Addr) (c : Nat) (l : Int) (h0 : 0 ≤ l) (h : l < (n : Int)) (hn : n ≤ maxLen) (w : World) : Calls Try.prog 43 #[.slice a n c, .int .i64 l] w fun e w' => e = .returned (.int .i64 (-1)) ∧ w' = w := by
  unfold maxLen at hn
  have d1 : decide (l - (n : Int) < 0) = true := decide_eq_true (by omega)
  go_enter Try.func43, Try.ntmps43
  go_wp2
  go_ret
  exact ⟨rfl, rfl⟩

set_option maxHeartbeats 1000000 in
theorem szIntSS_any (ts : List (List Int)) (n : Nat) (a : Option Addr) (c : Nat) (hn : n ≤ maxLen) (hm : ∀ t ∈ ts, t.length ≤ maxLen) (w : World) (h : Ts w w.heap.size a n ts) :
    Calls Try.prog 21 #[.slice a n c, .int .i64 1048576] w fun e w' => e = .returned (.int .i64 (szv n ts)) ∧ w' = w := by
  unfold maxLen at hn
  obtain ⟨hlen, hrow⟩ := h
  have HR := hideIt hrow
  clear hrow
  by_cases g : n ≤ 1048576
  · have d1 : decide (1048576 - (n : Int) < 0) = false := decide_eq_false (by omega)
    go_enter Try.func21, Try.ntmps21
    go_wp2
    go_loopw [1, 5] (fun q i wr => ∃ (k : Nat) (x : Int), k ≤ n ∧ i = .int .i64 (k : Int) ∧ q = .int .i64 x ∧ 0 ≤ x ∧ x ≤ 1048576 ∧ Hid (x = 1048576 - (n : Int) - (lnS (ts.take k) : Int)) ∧ wr = w) (fun _ i _ => n - (intOf i).toNat)
    case atStart => exact ⟨0, _, by omega, rfl, rfl, by omega, by omega, by show _ = _; rw [lnS_zero]; simp, rfl⟩
    case round =>
      obtain ⟨k, x, hk, rfl, rfl, hx0, hx1, HX, hw⟩ := hrel
      have hw' := hw.symm
      subst hw'
      clear hw
      by_cases hlt : k < n
      · rcases HR.out with hz | ⟨b, off, rfl, hbl, hc⟩
        · omega
        · obtain ⟨t, ht⟩ : ∃ t, ts[k]? = some t := ⟨ts[k]'(by omega), List.getElem?_eq_getElem (by omega)⟩
          obtain ⟨a', c', e0, _⟩ := hc k t ht
          have hml := hm t (List.mem_of_getElem? ht)
          have b1 : (0 : Int) ≤ (k : Int) := by omega
          have b2 : (k : Int) < (n : Int) := by omega
          by_cases hfit : (t.length : Int) ≤ x
          · have HY := hideIt (szIntS_yes t.length a' c' x hfit hx1 w)
            have HX2 : Hid (x - (t.length : Int) = 1048576 - (n : Int) - (lnS (ts.take (k + 1)) : Int)) := by
              show _ = _
              have := HX.out
              rw [lnS_take ht]
              omega
            have d2 : decide (x - (t.length : Int) < 0) = false := decide_eq_false (by omega)
            clear hc ht HX
            go_wp2_with (go_at_call 43; refine HY.out.mono ?_; rintro e w1 ⟨rfl, hw⟩; have hw' := hw.symm; subst hw'; clear hw)
            exact ⟨⟨k + 1, _, by omega, by go_num, rfl, by omega, by omega, HX2, by first | trivial | rfl⟩, by simp [intOf]; omega⟩
          · have HY := hideIt (szIntS_no t.length a' c' x hx0 (by omega) hml w)
            have HV : Hid (szv n ts = -1) := by
              show _ = _
              have h1 := HX.out
              have h2 := lnS_at ht
              unfold szv
              rw [if_neg (by omega)]
            clear hc ht HX hml
            go_wp2_with (go_at_call 43; refine HY.out.mono ?_; rintro e w1 ⟨rfl, hw⟩; have hw' := hw.symm; subst hw'; clear hw)
            go_ret
            exact ⟨by rw [HV.out]; rfl, rfl⟩
      · obtain rfl : k = n := by omega
        have HV : Hid (szv k ts = x) := by
          show _ = _
          have h1 := HX.out
          rw [List.take_of_length_le (by omega)] at h1
          unfold szv
          rw [if_pos (by omega)]
          exact h1.symm
        clear HX
        go_wp2
        go_ret
        exact ⟨by rw [HV.out]; rfl, rfl⟩
  · have d1 : decide (1048576 - (n : Int) < 0) = true := decide_eq_true (by omega)
    have HV : Hid (szv n ts = -1) := by
      show _ = _
      unfold szv
      rw [if_neg (by omega)]
    go_enter Try.func21, Try.ntmps21
    go_wp2
    go_ret
    exact ⟨by rw [HV.out]; rfl, rfl⟩

theorem szForest_any (N : Int) (ts : List (List Int)) (n : Nat) (a : Option Addr) (c : Nat) (hn : n ≤ maxLen) (hm : ∀ t ∈ ts, t.length ≤ maxLen) (w : World) (h : Ts w w.heap.size a n ts) :
    Calls Try.prog 6 #[.agg #[.int .i64 N, .slice a n c], .int .i64 1048576] w fun e w' => e = .returned (.int .i64 (szv n ts)) ∧ Below w.heap.size w w' := by
  have b0 : Below w.heap.size w (w.alloc (.cells #[.int .i64 N, .slice a n c] 24)) := (Below.refl _ _).alloc (Nat.le_refl _) _
  have HT := hideIt (szIntSS_any ts n a c hn hm _ (h.up b0))
  by_cases g : n + lnS ts ≤ 1048576
  · have HV : Hid (szv n ts = 1048576 - (n : Int) - (lnS ts : Int)) := by show _ = _; unfold szv; rw [if_pos g]
    have d1 : decide (szv n ts < 0) = false := decide_eq_false (by have := HV.out; omega)
    generalize szv n ts = z at *
    clear h HV
    go_enter Try.func6, Try.ntmps6
    go_wp2_with (go_at_call 21; refine HT.out.mono ?_; rintro e w1 ⟨rfl, rfl⟩)
    go_ret
    exact ⟨rfl, b0⟩
  · have HV : Hid (szv n ts = -1) := by show _ = _; unfold szv; rw [if_neg g]
    have d1 : decide (szv n ts < 0) = true := decide_eq_true (by have := HV.out; omega)
    generalize szv n ts = z at *
    clear h
    go_enter Try.func6, Try.ntmps6
    go_wp2_with (go_at_call 21; refine HT.out.mono ?_; rintro e w1 ⟨rfl, rfl⟩)
    go_ret
    exact ⟨by rw [HV.out]; rfl, b0⟩

theorem infoIT : (Try.prog.info? 45).map (fun i => (i.zero, i.size, i.bytes)) = some (some (.slice none 0 0), 1, 24) := by kernel_rfl

/-- rows in the making: k of n are laid -/
structure FMk (w : World) (n : Nat) (R : List Rw) (u : World) : Prop where
  xs : ∃ xs : List Value, u.ownsRow w.heap.size 45 1 (.slice (some ⟨w.heap.size, 0, none⟩) n n) n xs ∧ xs.take R.length = rhs R
  ins : ∀ r ∈ R, RwB u r ∧ w.heap.size < r.g
  nod : R.Pairwise fun r s => r.g ≠ s.g
  bel : Below w.heap.size w u
theorem FMk.fb {w u : World} {n : Nat} {R : List Rw} (h : FMk w n R u) (hn : R.length = n) : FB u w.heap.size u.heap.size (some ⟨w.heap.size, 0, none⟩) n n R := by
  obtain ⟨xs, h1, h2⟩ := h.xs
  have hl := h1.1
  rw [List.take_of_length_le (by omega)] at h2
  subst h2
  exact ⟨hn, h1, fun g hg => (h1.lt g hg).2, Nat.le_refl _, fun r hr => ⟨(h.ins r hr).1, by have := (h.ins r hr).2; omega, (h.ins r hr).1.lt⟩, h.nod⟩
theorem FMk.add {w u v : World} {n : Nat} {R : List Rw} (h : FMk w n R u) {r : Rw} (hk : R.length < n) (hb : Below u.heap.size u v) (hr : RwB v r) (hg : u.heap.size ≤ r.g) : FMk w n (R ++ [r]) (v.setCell ⟨w.heap.size, R.length, none⟩ r.hdr) := by
  obtain ⟨xs, h1, h2⟩ := h.xs
  have h3 := own_up h1 hb
  have hst := h3.stored R.length r.hdr
  have hl := h1.1
  have hsz := (h1.lt w.heap.size rfl).2
  have hkeep : ∀ x, RwB v x → RwB (v.setCell ⟨w.heap.size, R.length, none⟩ r.hdr) x := fun x hx => hx.grown (grownSet v w.heap.size R.length r.hdr) (fun e => own_ne h3 hx (by simpa using e))
  refine ⟨⟨_, hst.1, ?_⟩, fun x hx => ?_, ?_, ?_⟩
  · rw [List.length_append, List.length_cons, List.length_nil, Nat.zero_add, List.take_add_one, List.take_set_of_le (Nat.le_refl _), h2, rhs_snoc]
    simp [show R.length < xs.length by omega]
  · rcases List.mem_append.1 hx with hx | hx
    · have := h.ins x hx
      exact ⟨hkeep x (this.1.rng (l2 := x.g + 1) (h2 := x.g + 1) (Rng.of_below hb) (.inl (Nat.le_refl _))), this.2⟩
    · simp at hx
      subst hx
      exact ⟨hkeep x hr, by omega⟩
  · rw [List.pairwise_append]
    refine ⟨h.nod, by simp, fun x hx y hy => ?_⟩
    simp at hy
    subst hy
    have := (h.ins x hx).1.lt
    omega
  · exact (h.bel.trans (hb.mono (by omega))).setCell (p := ⟨w.heap.size, R.length, none⟩) (Nat.le_refl _) _

set_option maxHeartbeats 1000000 in
theorem toIntSS_any (ts : List (List Int)) (n : Nat) (a : Option Addr) (cap : Nat) (hn : n + lnS ts ≤ 1048576) (w : World) (h : Ts w w.heap.size a n ts) :
    Calls Try.prog 26 #[.slice a n cap] w fun e w' => ∃ g R, e = .returned (.slice (some ⟨g, 0, none⟩) n n) ∧ FB w' w.heap.size w'.heap.size (some ⟨g, 0, none⟩) n n R ∧ rts R = ts ∧ Below w.heap.size w w' := by
  obtain ⟨i0, hi, hz0, hz1, hz2⟩ := info_parts infoIT
  have hlen := h.1
  have HTs := hideIt h
  have hmk : ∀ u : World, (Instr.makeSlice 22 (.int .i64 (n : Int)) (.int .i64 (n : Int))).run Try.prog u =
      .ok (.slice (some ⟨u.heap.size, 0, none⟩) n n) (u.alloc (.cells (madeCells #[.slice none 0 0] n) 45)) := fun u => by
    have h := run_make (P := Try.prog) u 22 45 i0 _ Try.underlying22 hi hz0 .i64 .i64 (n : Int) (n : Int) (by omega) (by omega) (by rw [hz2]; omega) (by omega)
    rw [Int.toNat_natCast] at h
    simpa [hz1, Value.cells] using h
  have F0 : FMk w n [] (w.alloc (.cells (madeCells #[.slice none 0 0] n) 45)) :=
    ⟨⟨_, World.ownsRow_lit (base := w.heap.size) (e := 45) (size := 1) w (madeCells #[.slice none 0 0] n) n (Nat.le_refl _) (by unfold maxLen; omega) (by simp [madeCells]), by simp [rhs]⟩, by simp, List.Pairwise.nil, (Below.refl _ _).alloc (Nat.le_refl _) _⟩
  clear h
  go_enter Try.func26, Try.ntmps26
  go_wp2
  go_loopw [4] (fun i wr => ∃ (k : Nat) (R : List Rw), k ≤ n ∧ i = .int .i64 (k : Int) ∧ Hid (R.length = k) ∧ Hid (rts R = ts.take k) ∧ FMk w n R wr) (fun i _ => n - (intOf i).toNat)
  case atStart => exact ⟨0, [], by omega, rfl, by show _ = _; rfl, by show _ = _; simp [rts], F0⟩
  case round =>
    obtain ⟨k, R, hk, rfl, HK, HTk, hF⟩ := hrel
    clear F0 hmk
    have HF := hideIt hF
    have hbw := hF.bel
    by_cases hlt : k < n
    · obtain ⟨t, ht⟩ : ∃ t, ts[k]? = some t := ⟨ts[k]'(by omega), List.getElem?_eq_getElem (by omega)⟩
      rcases (HTs.out.up hbw).2 with hz | ⟨b, off, rfl, hbl, hc⟩
      · omega
      · obtain ⟨a', c', e0, hI, _⟩ := hc k t ht
        have b1 : (0 : Int) ≤ (k : Int) := by omega
        have b2 : (k : Int) < (n : Int) := by omega
        have hfit : t.length ≤ 1048576 := by have := lnS_at ht; omega
        have HY := hideIt (toIntS_any t t.length a' c' hfit wr hI)
        have HT2 : Hid (∀ r : Rw, r.t = t → rts (R ++ [r]) = ts.take (k + 1)) := fun r hr => by rw [rts_snoc, HTk.out, take_snocF ts k t ht, hr]
        obtain ⟨xs, hown, hxs⟩ := hF.xs
        have HO := hideIt hown
        have hl3 : xs.length = n * 1 := hown.1
        have hwz := (hown.lt w.heap.size rfl).2
        clear hc ht hF HTk hI hown hxs hbw
        go_wp2_with (go_at_call 48; refine HY.out.mono ?_; rintro e w1 ⟨g, rfl, ho, hb⟩; refine Hid.out ?_)
        refine (show ∀ {p : Prop}, p → Hid p from fun h => h) ?_
        have ho2 := own_up HO.out hb
        have f0 := ho2.frozenAt k
        have x0 : w1.cell? ⟨w.heap.size, k, none⟩ = some (xs[k]'(by omega)) := by rw [ho2.cellAt k (by omega)]; exact List.getElem?_eq_getElem (by omega)
        have hA := HF.out.add (r := ⟨g, t.length, t⟩) (by have := HK.out; omega) hb (RwB.of_own ho) (ho.lt g rfl).1
        rw [HK.out] at hA
        have HA := hideIt hA
        clear ho2 hA ho HY HF
        go_wp2
        exact ⟨⟨k + 1, _, by omega, by go_num, by show _ = _; rw [List.length_append, HK.out]; rfl, HT2.out _ rfl, HA.out⟩, by simp [intOf]; omega⟩
    · obtain rfl : k = n := by omega
      have HT2 : Hid (rts R = ts) := by show _ = _; rw [HTk.out, List.take_of_length_le (by omega)]
      clear hF hbw
      go_wp2
      go_ret
      exact ⟨w.heap.size, R, rfl, HF.out.fb HK.out, HT2.out, HF.out.bel⟩

set_option maxHeartbeats 1000000 in
theorem toForest_any (N : Int) (ts : List (List Int)) (n : Nat) (a : Option Addr) (cap : Nat) (hn : n + lnS ts ≤ 1048576) (w : World) (h : Ts w w.heap.size a n ts) :
    Calls Try.prog 8 #[.agg #[.int .i64 N, .slice a n cap]] w fun e w' => ∃ g R, e = .returned (.agg #[.int .i64 N, .slice (some ⟨g, 0, none⟩) n n]) ∧ FB w' w.heap.size w'.heap.size (some ⟨g, 0, none⟩) n n R ∧ rts R = ts ∧ Below w.heap.size w w' := by
  have b3 : Below w.heap.size w (((w.alloc (.cells #[.int .i64 N, .slice a n cap] 24)).alloc (.cells #[.int .i64 0, .slice none 0 0] 28)).alloc (.cells #[.int .i64 N, .slice none 0 0] 28)) := (((Below.refl _ _).alloc (Nat.le_refl _) _).alloc (by simp) _).alloc (by simp; omega) _
  have HT := hideIt (toIntSS_any ts n a cap hn _ (h.up b3))
  clear h
  go_enter Try.func8, Try.ntmps8
  go_wp2_with (go_at_call 26; refine HT.out.mono ?_; rintro e w1 ⟨g, R, rfl, hF, hR, hb1⟩; refine Hid.out ?_)
  refine (show ∀ {p : Prop}, p → Hid p from fun h => h) ?_
  obtain ⟨hc, hf⟩ := bcell hb1
  have HF := hideIt hF
  have HR := hideIt hR
  have hz := hb1.size
  clear hF HT hR
  simp at hz
  go_wp2
  refine bodyPost_ret (v := .agg #[.int .i64 N, .slice (some ⟨g, 0, none⟩) n n]) (by simp [results, Try.results8, go_sem, hc]) rfl ⟨g, R, rfl, ?_, HR.out, ?_⟩
  · exact ((HF.out.setLow (by simp) _ _).setLow (by simp) _ _ |>.setLow (by simp) _ _).lo (by simp; omega) |>.hi (by simp) (by simp)
  · exact ((b3.trans (hb1.mono (by simp; omega))).setCell (by simp; omega) _).setCell (by simp) _ |>.setCell (by simp) _


set_option maxHeartbeats 1000000 in
theorem eqIntSS_same (ts : List (List Int)) (n : Nat) (a a' : Option Addr) (c c' : Nat) (hn : n + lnS ts ≤ 1048576) (w : World) (h : Ts w w.heap.size a n ts) (h' : Ts w w.heap.size a' n ts) :
    Calls Try.prog 31 #[.slice a n c, .slice a' n c'] w fun e w' => e = .returned (.bool true) ∧ Below w.heap.size w w' := by
  have hlen := h.1
  have HA := hideIt h
  have HA' := hideIt h'
  have dn : ((n : Int) != (n : Int)) = false := by simp
  clear h h'
  go_enter Try.func31, Try.ntmps31
  go_wp2
  go_loopw [5] (fun i wr => ∃ (k : Nat), k ≤ n ∧ i = .int .i64 (k : Int) ∧ Good w wr) (fun i _ => n - (intOf i).toNat)
  case atStart => exact ⟨0, by omega, rfl, Good.refl _⟩
  case round =>
    obtain ⟨k, hk, rfl, hg⟩ := hrel
    by_cases hlt : k < n
    · rcases (HA.out.up hg).2 with hz | ⟨b, off, rfl, hbl, hc⟩
      · omega
      · rcases (HA'.out.up hg).2 with hz | ⟨b', off', rfl, hbl', hc'⟩
        · omega
        · obtain ⟨t, ht⟩ : ∃ t, ts[k]? = some t := ⟨ts[k]'(by omega), List.getElem?_eq_getElem (by omega)⟩
          obtain ⟨x, cx, e0, i0, _⟩ := hc k t ht
          obtain ⟨y, cy, e1, i1, _⟩ := hc' k t ht
          have hfit : t.length ≤ 1048576 := by have := lnS_at ht; omega
          have b1 : (0 : Int) ≤ (k : Int) := by omega
          have b2 : (k : Int) < (n : Int) := by omega
          have HE := hideIt (fun u (hu : Good wr u) => (eqIntS_same t t.length x y cx cy hfit u (i0.up hu) (i1.up hu)).mono fun e v ⟨he, hb⟩ => (⟨he, Good.up hu hb⟩ : e = Ending.returned (.bool true) ∧ Good wr v))
          have HG := hideIt (fun u (hu : Good wr u) => hg.up hu)
          have g0 := (Good.refl wr).drew
          have HC : Hid (∀ u, Good wr u → u.cell? ⟨b, off + k, none⟩ = some (.slice x t.length cx) ∧ u.cell? ⟨b', off' + k, none⟩ = some (.slice y t.length cy)) := fun u hu => ⟨by rw [hu.cell hbl]; exact e0, by rw [hu.cell hbl']; exact e1⟩
          have hS0 := HC.out _ g0
          clear hc hc' ht i0 i1
          go_wp2
          go_region_held3 (fun u => u.cell? ⟨b, off + k, none⟩ = some (.slice x t.length cx) ∧ u.cell? ⟨b', off' + k, none⟩ = some (.slice y t.length cy)) (first | assumption)
            (first | (go_at_call 57; refine (HE.out _ g0).mono ?_; rintro e w1 ⟨rfl, hg1⟩; have hS1 := HC.out _ hg1))
          have hg2 := HG.out _ hg1
          go_wp2
          exact ⟨⟨k + 1, by omega, by go_num, hg2⟩, by simp [intOf]; omega⟩
    · go_wp2
      go_ret
      exact ⟨rfl, hg⟩

theorem eqForest_same (N : Int) (ts : List (List Int)) (n : Nat) (a a' : Option Addr) (c c' : Nat) (hn : n + lnS ts ≤ 1048576) (w : World) (h : Ts w w.heap.size a n ts) (h' : Ts w w.heap.size a' n ts) :
    Calls Try.prog 11 #[.agg #[.int .i64 N, .slice a n c], .agg #[.int .i64 N, .slice a' n c']] w fun e w' => e = .returned (.bool true) ∧ Below w.heap.size w w' := by
  have b2 : Below w.heap.size w ((w.alloc (.cells #[.int .i64 N, .slice a n c] 28)).alloc (.cells #[.int .i64 N, .slice a' n c'] 28)) := ((Below.refl _ _).alloc (Nat.le_refl _) _).alloc (by simp) _
  have HT := hideIt (eqIntSS_same ts n a a' c c' hn _ (h.up b2) (h'.up b2))
  have HB := hideIt b2
  clear b2 h h'
  go_enter Try.func11, Try.ntmps11
  go_wp2_with (go_at_call 31; refine HT.out.mono ?_; rintro e w1 ⟨rfl, hb1⟩)
  go_ret
  exact ⟨rfl, HB.out.trans (hb1.mono (by simp; omega))⟩

set_option maxHeartbeats 1000000 in
theorem markIntSS_any (R : List Rw) (lo hi n k0 : Nat) (a : Option Addr) (c : Nat) (hn : n + rn R ≤ 1048576) (hk1 : k0 ≤ 1000000) (w : World) (h : FB w lo hi a n c R) :
    Calls Try.prog 32 #[.slice a n c, .int .i64 (k0 : Int)] w fun e w' => e = .returned (.int .i64 ((k0 : Int) + (rn R : Int))) ∧ FB w' lo hi a n c (mkR k0 R) ∧ Rng lo hi w w' := by
  have hlen := h.len
  have H0 := hideIt h
  clear h
  go_enter Try.func32, Try.ntmps32
  go_wp2
  go_loopw [1, 5] (fun q i wr => ∃ (k s : Nat), k ≤ n ∧ i = .int .i64 (k : Int) ∧ q = .int .i64 ((k0 : Int) + (s : Int)) ∧ Hid (s = rn (R.take k)) ∧ FB wr lo hi a n c (mkR k0 (R.take k) ++ R.drop k) ∧ Rng lo hi w wr) (fun _ i _ => n - (intOf i).toNat)
  case atStart => exact ⟨0, 0, by omega, rfl, by simp, by show _ = _; rfl, H0.out, Rng.of_below (Below.refl _ _)⟩
  case round =>
    obtain ⟨k, s, hk, rfl, rfl, HS, hF, hr⟩ := hrel
    clear H0
    by_cases hlt : k < n
    · obtain ⟨r, hrk⟩ : ∃ r, R[k]? = some r := ⟨R[k]'(by omega), List.getElem?_eq_getElem (by omega)⟩
      rw [split_at hrk] at hF
      have hkl : (mkR k0 (R.take k)).length = k := by rw [mkR_len, List.length_take]; omega
      rcases hF.own.2 with ⟨_, h0⟩ | ⟨g, cap, cur, hv, hg, hcur, hrest⟩
      · omega
      · have hv' := hv
        simp at hv'
        obtain ⟨rfl, rfl⟩ := hv'
        have e0 : wr.cell? ⟨g, k, none⟩ = some (.slice (some ⟨r.g, 0, none⟩) r.t.length r.cp) := by
          rw [hF.own.cellAt k (by omega)]
          exact rhs_at (r := r) (by rw [List.getElem?_append_right (by omega), hkl, Nat.sub_self]; rfl)
        have hs := HS.out
        have hfit := rn_at hrk
        have hri := hF.ins r (by simp)
        have HM := hideIt (markRB hri.1 (k0 + s) (by omega) (by omega))
        rw [show ((k0 + s : Nat) : Int) = (k0 : Int) + (s : Int) by omega] at HM
        have HF := hideIt hF
        have HR := hideIt hr
        have HRI := hideIt hri.2
        have HN : Hid (mkR k0 (R.take k) ++ ⟨r.g, r.cp, imarks (k0 + s) r.t.length⟩ :: R.drop (k + 1) = mkR k0 (R.take (k + 1)) ++ R.drop (k + 1)) := by
          show _ = _
          rw [take_snocF R k r hrk, mkR_snoc, hs]
          simp
        have HS2 : Hid (s + r.t.length = rn (R.take (k + 1))) := by show _ = _; rw [rn_take hrk, hs]
        have b1 : (0 : Int) ≤ (k : Int) := by omega
        have b2 : (k : Int) < (n : Int) := by omega
        clear hF hr hrest hcur hv hrk hs hkl hri
        go_wp2_with (go_at_call 58; refine HM.out.mono ?_; rintro e w1 ⟨rfl, hB, hr1⟩; refine Hid.out ?_)
        refine (show ∀ {p : Prop}, p → Hid p from fun h => h) ?_
        have HA := hideIt (HF.out.turn (imarks_len _ _) hr1 hB)
        have HR2 : Hid (Rng lo hi w w1) := ⟨hr1.os.trans HR.out.os, hr1.tape.trans HR.out.tape, hr1.output.trans HR.out.output, Nat.le_trans HR.out.size hr1.size, fun j hj ho => (hr1.block j (Nat.lt_of_lt_of_le hj HR.out.size) (by have := HRI.out; omega)).trans (HR.out.block j hj ho)⟩
        clear HF HR HM hB hr1
        go_wp2
        exact ⟨⟨k + 1, s + r.t.length, by omega, by go_num, by go_num, HS2, by rw [← HN.out]; exact HA.out, HR2.out⟩, by simp [intOf]; omega⟩
    · obtain rfl : k = n := by omega
      have HS2 : Hid (s = rn R) := by show _ = _; rw [HS.out, List.take_of_length_le (by omega)]
      have HF := hideIt hF
      clear hF HS
      go_wp2
      go_ret
      refine ⟨by rw [← HS2.out]; rfl, ?_, hr⟩
      have := HF.out
      rw [List.take_of_length_le (by omega), List.drop_of_length_le (by omega), List.append_nil] at this
      exact this

theorem markForest_any (N : Int) (R : List Rw) (lo hi n k0 : Nat) (a : Option Addr) (c : Nat) (hn : n + rn R ≤ 1048576) (hk1 : k0 ≤ 1000000) (w : World) (h : FB w lo hi a n c R) :
    Calls Try.prog 12 #[.agg #[.int .i64 N, .slice a n c], .int .i64 (k0 : Int)] w fun e w' => e = .returned (.int .i64 ((k0 : Int) + (rn R : Int))) ∧ FB w' lo hi a n c (mkR k0 R) ∧ Rng lo hi w w' := by
  have hb : Below w.heap.size w (w.alloc (.cells #[.int .i64 N, .slice a n c] 28)) := (Below.refl _ _).alloc (Nat.le_refl _) _
  have HT := hideIt (markIntSS_any R lo hi n k0 a c hn hk1 _ (h.up hb))
  have HB := hideIt hb
  clear h hb
  go_enter Try.func12, Try.ntmps12
  go_wp2_with (go_at_call 32; refine HT.out.mono ?_; rintro e w1 ⟨rfl, ho, hg⟩; refine Hid.out ?_)
  refine (show ∀ {p : Prop}, p → Hid p from fun h => h) ?_
  have HO := hideIt ho
  have HG : Hid (Rng lo hi w w1) := ⟨hg.os.trans HB.out.os, hg.tape.trans HB.out.tape, hg.output.trans HB.out.output, Nat.le_trans HB.out.size hg.size, fun j hj ho => (hg.block j (Nat.lt_of_lt_of_le hj HB.out.size) ho).trans (HB.out.block j hj)⟩
  clear ho hg HT HB
  go_wp2
  go_ret
  exact ⟨rfl, HO.out, HG.out⟩

set_option maxHeartbeats 1000000 in
theorem heldIntSS_any (R : List Rw) (lo hi n k0 : Nat) (a : Option Addr) (c : Nat) (hn : n + rn R ≤ 1048576) (hk1 : k0 ≤ 1000000) (w : World) (h : FB w lo hi a n c (mkR k0 R)) :
    Calls Try.prog 33 #[.slice a n c, .int .i64 (k0 : Int)] w fun e w' => e = .returned (.int .i64 ((k0 : Int) + (rn R : Int))) ∧ w' = w := by
  have hlen := h.len
  rw [mkR_len] at hlen
  have H0 := hideIt h
  clear h
  go_enter Try.func33, Try.ntmps33
  go_wp2
  go_loopw [1, 5] (fun q i wr => ∃ (k s : Nat), k ≤ n ∧ i = .int .i64 (k : Int) ∧ q = .int .i64 ((k0 : Int) + (s : Int)) ∧ Hid (s = rn (R.take k)) ∧ wr = w) (fun _ i _ => n - (intOf i).toNat)
  case atStart => exact ⟨0, 0, by omega, rfl, by simp, by show _ = _; rfl, rfl⟩
  case round =>
    obtain ⟨k, s, hk, rfl, rfl, HS, hw⟩ := hrel
    have hw' := hw.symm
    subst hw'
    clear hw
    by_cases hlt : k < n
    · obtain ⟨r, hrk⟩ : ∃ r, R[k]? = some r := ⟨R[k]'(by omega), List.getElem?_eq_getElem (by omega)⟩
      rcases H0.out.own.2 with ⟨_, h0⟩ | ⟨g, cap, cur, hv, hg, hcur, hrest⟩
      · omega
      · have hv' := hv
        simp at hv'
        obtain ⟨rfl, rfl⟩ := hv'
        have hat := mkR_at (k := k0) hrk
        have e0 : w.cell? ⟨g, k, none⟩ = some (.slice (some ⟨r.g, 0, none⟩) r.t.length r.cp) := by
          rw [H0.out.own.cellAt k (by omega), rhs_at hat]
          simp [Rw.hdr, imarks_len]
        have hs := HS.out
        have hfit := rn_at hrk
        have hri : RBox w r.g (r.g + 1) (some ⟨r.g, 0, none⟩) (imarks (k0 + rn (R.take k)) r.t.length).length r.cp (imarks (k0 + rn (R.take k)) r.t.length) := (H0.out.ins _ (List.mem_of_getElem? hat)).1
        rw [imarks_len, ← hs] at hri
        have HM := hideIt (heldRB (k0 + s) hri (by omega) (by omega))
        rw [show ((k0 + s : Nat) : Int) = (k0 : Int) + (s : Int) by omega] at HM
        have HS2 : Hid (s + r.t.length = rn (R.take (k + 1))) := by show _ = _; rw [rn_take hrk, hs]
        have b1 : (0 : Int) ≤ (k : Int) := by omega
        have b2 : (k : Int) < (n : Int) := by omega
        have d1 : decide ((k0 : Int) + (s : Int) + (r.t.length : Int) < 0) = false := decide_eq_false (by omega)
        clear hrest hcur hv hrk hs hri hat
        go_wp2_with (go_at_call 59; refine HM.out.mono ?_; rintro e w1 ⟨rfl, hw⟩; have hw' := hw.symm; subst hw'; clear hw)
        exact ⟨⟨k + 1, s + r.t.length, by omega, by go_num, by go_num, HS2, by first | trivial | rfl⟩, by simp [intOf]; omega⟩
    · obtain rfl : k = n := by omega
      have HS2 : Hid (s = rn R) := by show _ = _; rw [HS.out, List.take_of_length_le (by omega)]
      clear HS
      go_wp2
      go_ret
      exact ⟨by rw [← HS2.out]; rfl, rfl⟩

theorem heldForest_any (N : Int) (R : List Rw) (lo hi n k0 : Nat) (a : Option Addr) (c : Nat) (hn : n + rn R ≤ 1048576) (hk1 : k0 ≤ 1000000) (w : World) (h : FB w lo hi a n c (mkR k0 R)) :
    Calls Try.prog 13 #[.agg #[.int .i64 N, .slice a n c], .int .i64 (k0 : Int)] w fun e w' => e = .returned (.int .i64 ((k0 : Int) + (rn R : Int))) ∧ Below w.heap.size w w' := by
  have hb : Below w.heap.size w (w.alloc (.cells #[.int .i64 N, .slice a n c] 28)) := (Below.refl _ _).alloc (Nat.le_refl _) _
  have HT := hideIt (heldIntSS_any R lo hi n k0 a c hn hk1 _ (h.up hb))
  have d1 : decide ((k0 : Int) + (rn R : Int) < 0) = false := decide_eq_false (by omega)
  have HB := hideIt hb
  clear h hb
  go_enter Try.func13, Try.ntmps13
  go_wp2_with (go_at_call 33; refine HT.out.mono ?_; rintro e w1 ⟨rfl, rfl⟩)
  go_ret
  exact ⟨rfl, HB.out⟩
end Go.Proofs.Ytcpffonenhhfoab
