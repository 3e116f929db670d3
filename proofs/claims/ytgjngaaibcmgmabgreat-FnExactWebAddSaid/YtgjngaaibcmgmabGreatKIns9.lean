/- What a right web's ground tells: labels, together, height: pure. The program's groundOf, WebLabels, WebTogether. The specification's WebLabels and WebTogether. slices.Concat of edges with levels. The specification's l08Put. Edges put in and left out: pure. -/
import Derived.Test.YtgjngaaibcmgmabGreatKWb9
import Derived.Test.YtgjngaaibcmgmabGreatKSWo9
import Derived.Test.YtgjngaaibcmgmabGreatKBx7
import Derived.Lib.AppendZerosOnto
import Derived.Lib.Walk
import Derived.Lib.SliceRun
import Derived.Laws.AppendOwnNone
import Derived.Deep.AppendLies
namespace Go.Proofs.YtgjngaaibcmgmabGreat
open Go.RowKit

/-- the least vertex of each vertex's tour -/
def labW (ts : List (List Int)) (nn : Nat) : List Int := (List.range nn).map fun v : Nat => mnV ((ts[(trI ts (v : Int)).toNat]?).getD [])
theorem labW_len (ts : List (List Int)) (nn : Nat) : (labW ts nn).length = nn := by simp [labW]
theorem labW_at {es : List EdgeV} {nn : Nat} {ts : List (List Int)} (h : FtAll es nn ts) {v : Nat} (hv : v < nn) {t : List Int} (ht : t ∈ ts) (hvt : (v : Int) ∈ t) : (labW ts nn)[v]? = some (mnV t) := by
  obtain ⟨k, hk⟩ := List.mem_iff_getElem?.1 ht
  have e := trI_of h.fp.q hk hvt
  simp [labW, hv, e, hk]
/-- a list that tells each tour's first number for each of its vertices is that of the labels -/
theorem labW_of {es : List EdgeV} {nn : Nat} {ts : List (List Int)} (h : FtAll es nn ts) {L : List Int} (hl : L.length = nn) (hL : ∀ t ∈ ts, ∀ v : Nat, (v : Int) ∈ t → L[v]? = t[0]?) : L = labW ts nn := by
  apply List.ext_getElem?
  intro v
  by_cases hv : v < nn
  · obtain ⟨t, ht, hvt⟩ := h.cov (v : Int) (by omega) (by omega)
    rw [hL t ht v hvt, labW_at h hv ht hvt, ← List.head?_eq_getElem?]
    exact h.mn t ht
  · rw [List.getElem?_eq_none (by omega), List.getElem?_eq_none (by rw [labW_len]; omega)]
/-- the ground's trees -/
def gndT (N : Int) (ls : List Ld) : List (List Int) := (ftK (fE ls 0) N.toNat N.toNat).getD []
noncomputable def lbO (N : Int) (ls : List Ld) : List Int := @ite _ (WOk N ls) (Classical.propDecidable _) (labW (gndT N ls) N.toNat) []
theorem lbO_yes {nn : Nat} {ls : List Ld} (h : WOk (nn : Int) ls) {ts : List (List Int)} (hts : ftK (fE ls 0) nn nn = some ts) : lbO (nn : Int) ls = labW ts nn := by
  unfold lbO gndT; rw [if_pos h, Int.toNat_natCast, hts]; rfl
theorem lbO_no {N : Int} {ls : List Ld} (h : ¬ WOk N ls) : lbO N ls = [] := by unfold lbO; rw [if_neg h]
theorem lbO_len (N : Int) (ls : List Ld) : (lbO N ls).length ≤ 12 := by
  by_cases h : WOk N ls
  · obtain ⟨nn, rfl, _, h12⟩ := gB_n h.1
    unfold lbO
    rw [if_pos h, labW_len, Int.toNat_natCast]
    exact h12
  · rw [lbO_no h]; simp
/-- both are in one tree -/
noncomputable def tgB (N : Int) (ls : List Ld) (x y : Int) : Bool := @decide (WOk N ls ∧ (0 ≤ x ∧ x < N) ∧ (0 ≤ y ∧ y < N) ∧ trI (gndT N ls) x = trI (gndT N ls) y) (Classical.propDecidable _)
theorem tgB_iff {N : Int} {ls : List Ld} {x y : Int} : tgB N ls x y = true ↔ (WOk N ls ∧ (0 ≤ x ∧ x < N) ∧ (0 ≤ y ∧ y < N) ∧ trI (gndT N ls) x = trI (gndT N ls) y) := by
  unfold tgB; exact @decide_eq_true_iff _ (Classical.propDecidable _)
theorem tgB_is {N : Int} {ls : List Ld} {x y : Int} {b : Bool} (h : b = true ↔ (WOk N ls ∧ (0 ≤ x ∧ x < N) ∧ (0 ≤ y ∧ y < N) ∧ trI (gndT N ls) x = trI (gndT N ls) y)) : b = tgB N ls x y := by
  rw [Bool.eq_iff_iff, h, tgB_iff]
theorem gndT_is {nn : Nat} {ls : List Ld} {ts : List (List Int)} (hts : ftK (fE ls 0) nn nn = some ts) : gndT (nn : Int) ls = ts := by unfold gndT; rw [Int.toNat_natCast, hts]; rfl
/-- a right web's trees -/
theorem WOk.trees {nn : Nat} {ls : List Ld} (h : WOk (nn : Int) ls) (i : Nat) (hi : i < 5) : ∃ ts, ftK (fE ls (i : Int)) nn nn = some ts ∧ FtAll (fE ls (i : Int)) nn ts := by
  obtain ⟨ts, h1, _⟩ := h.2.2 i hi
  rw [Int.toNat_natCast] at h1
  have hg := (gB_chk h.1).1
  exact ⟨ts, h1, ft_all (fE_ends h.1 _) (by omega) (by omega) h1⟩
/-- the greatest level -/
def htK : List Ld → Int → Int
  | [], m => m
  | x :: r, m => htK r (if m < x.l then x.l else m)
noncomputable def htO (N : Int) (ls : List Ld) : Int := @ite _ (WOk N ls) (Classical.propDecidable _) (htK ls (-1)) (-1)
theorem htO_yes {N : Int} {ls : List Ld} (h : WOk N ls) : htO N ls = htK ls (-1) := by unfold htO; rw [if_pos h]
theorem htO_no {N : Int} {ls : List Ld} (h : ¬ WOk N ls) : htO N ls = -1 := by unfold htO; rw [if_neg h]
theorem htK_drop {ls : List Ld} {k : Nat} {x : Ld} (h : ls[k]? = some x) (m : Int) : htK (ls.drop k) m = htK (ls.drop (k + 1)) (if m < x.l then x.l else m) := by
  obtain ⟨hk, e⟩ := List.getElem?_eq_some_iff.1 h
  rw [List.drop_eq_getElem_cons hk, htK, e]
end Go.Proofs.YtgjngaaibcmgmabGreat
namespace Go.Proofs.YtgjngaaibcmgmabGreat
open Go.RowKit

theorem ft_lnS {es : List EdgeV} {nn : Nat} {ts : List (List Int)} (h : FtAll es nn ts) : ts.length + lnS ts ≤ 1048576 := by
  have h1 : ts.length ≤ 12 := h.fp.2.2.1
  have h2 : ∀ l : List (List Int), (∀ t ∈ l, t.length ≤ 23) → lnS l ≤ 23 * l.length := fun l => by
    induction l with
    | nil => intro _; simp [lnS]
    | cons t l ih =>
      intro hl
      have a := hl t (by simp)
      have b := ih fun s hs => hl s (by simp [hs])
      simp only [lnS, List.map_cons, List.sum_cons, List.length_cons] at b ⊢
      omega
  have := h2 ts fun t ht => (tB_len (h.fp.q.1 t ht).1).2
  omega
theorem ft_rng {es : List EdgeV} {nn : Nat} {ts : List (List Int)} (h : FtAll es nn ts) : ∀ t ∈ ts, 0 < t.length ∧ t.length ≤ 23 ∧ ∀ x ∈ t, 0 ≤ x ∧ x < (nn : Int) := fun t ht => by
  have h1 := h.fp.q.1 t ht
  have h2 := tB_len h1.1
  refine ⟨by omega, h2.2, fun x hx => ⟨?_, h1.2 x hx⟩⟩
  have := ((tB_iff t).1 h1.1).1 x hx
  unfold vB at this
  have := of_decide_eq_true this
  omega
set_option maxRecDepth 100000 in
set_option maxHeartbeats 4000000 in
theorem groundOf_yes (nn : Nat) (ls : List Ld) (n : Nat) (a : Option Addr) (c : Nat) (hn : n ≤ 1048576) (hW : WOk (nn : Int) ls) (ts : List (List Int)) (hts : ftK (fE ls 0) nn nn = some ts) (w : World) (h : Ls w w.heap.size a n ls) :
    Calls Tryz.prog 43 #[.agg #[.int .i64 (nn : Int), .slice a n c]] w fun e w' => ∃ a' m c', e = .returned (.agg #[.int .i64 (nn : Int), .slice a' m c']) ∧ Ts w' w'.heap.size a' m ts ∧ Below w.heap.size w w' := by
  have HO := iWebOk_any (nn : Int) ls n a c hn _ (h.up (wf2_good w (nn : Int) a n c))
  rw [wB_yes hW] at HO
  have HO := hideIt HO
  have HF : Hid (∀ u, Good (wf2 w (nn : Int) a n c) u → Calls Tryz.prog 62 #[.agg #[.int .i64 (nn : Int), .slice a n c], .int .i64 0] u (FAn9 u (nn : Int) (some ts))) := fun u hu => iForestAt_yes nn ls 0 n a c hW.1 (fun x hx => (hW.2.1 x hx).1) hW.bridge (by omega) ts hts u ((h.up (wf2_good w (nn : Int) a n c)).up hu)
  clear h hW hts
  go_enter Tryz.func43, Tryz.ntmps43
  go_wp2_with (go_at_call 11; refine HO.out.mono ?_; rintro e w1 ⟨rfl, hb1⟩; refine Hid.out ?_)
  refine (show ∀ {p : Prop}, p → Hid p from fun h => h) ?_
  have G1 : Good (wf2 w (nn : Int) a n c) w1 := hb1
  rw [wf2_size] at hb1
  obtain ⟨⟨cw0, cw1⟩, _⟩ := wf2_cells hb1
  have z1 := hb1.size
  rw [wf2_size] at z1
  have HF1 := hideIt (HF.out w1 G1)
  clear HO hb1 HF
  go_wp2_with (go_at_call 62; refine HF1.out.mono ?_; rintro e w2 ⟨a2, m2, c2, R2, rfl, hF2, hR2, hb2⟩; refine Hid.out ?_)
  refine (show ∀ {p : Prop}, p → Hid p from fun h => h) ?_
  simp only [Option.getD_some] at hR2
  have G2 := G1.up hb2
  have G2b : Below (w.heap.size + 2) (wf2 w (nn : Int) a n c) w2 := by have := G2; unfold Good at this; rwa [wf2_size] at this
  obtain ⟨_, bx⟩ := wf2_cells G2b
  have r0 := bx.cell0
  have r1 := bx.cell1
  have q0 := bx.frozen 0
  have q1 := bx.frozen 1
  have hlt := bx.lt
  have HG : Hid (Good w w2) := (wf2_good w (nn : Int) a n c).up G2
  have HTf : Hid (∀ v0 v1 o, Ts (((w2.setCell ⟨w.heap.size + 1, 0, none⟩ v0).setCell ⟨w.heap.size + 1, 1, none⟩ v1).alloc o) (((w2.setCell ⟨w.heap.size + 1, 0, none⟩ v0).setCell ⟨w.heap.size + 1, 1, none⟩ v1).alloc o).heap.size a2 m2 ts) := fun v0 v1 o => by
    have h1 := (hF2.setLow (x := w.heap.size + 1) (by omega) 0 v0).setLow (x := w.heap.size + 1) (by omega) 1 v1
    have h2 := h1.ts.up ((Below.refl _ _).alloc (Nat.le_refl _) o)
    rw [hR2] at h2
    exact h2
  have s2 := (bx.set2 (.int .i64 (nn : Int)) (.slice a2 m2 c2)).alloc (.cells #[.int .i64 (nn : Int), .slice a2 m2 c2] 61)
  have s0 := s2.cell0
  have s1 := s2.cell1
  clear hF2 hR2 G1 G2 G2b bx HF1 cw0 cw1 hb2 s2
  go_wp2
  refine bodyPost_ret (v := .agg #[.int .i64 (nn : Int), .slice a2 m2 c2]) (by simp [results, Tryz.results43, go_sem, s0, s1]) rfl ⟨a2, m2, c2, rfl, HTf.out _ _ _, ?_⟩
  exact (((HG.out.setCell (p := ⟨w.heap.size + 1, 0, none⟩) (by show _ ≤ w.heap.size + 1; omega) _).setCell (p := ⟨w.heap.size + 1, 1, none⟩) (by show _ ≤ w.heap.size + 1; omega) _)).alloc (by simp [World.setCell]; omega) _
set_option maxRecDepth 100000 in
set_option maxHeartbeats 4000000 in
theorem groundOf_no (N : Int) (ls : List Ld) (n : Nat) (a : Option Addr) (c : Nat) (hn : n ≤ 1048576) (hW : ¬ WOk N ls) (w : World) (h : Ls w w.heap.size a n ls) :
    Calls Tryz.prog 43 #[.agg #[.int .i64 N, .slice a n c]] w fun e w' => e = .returned (.agg #[.int .i64 0, .slice none 0 0]) ∧ Below w.heap.size w w' := by
  have HO := iWebOk_any N ls n a c hn _ (h.up (wf2_good w N a n c))
  rw [wB_no hW] at HO
  have HO := hideIt HO
  clear h hW
  go_enter Tryz.func43, Tryz.ntmps43
  go_wp2_with (go_at_call 11; refine HO.out.mono ?_; rintro e w1 ⟨rfl, hb1⟩; refine Hid.out ?_)
  refine (show ∀ {p : Prop}, p → Hid p from fun h => h) ?_
  have HG : Hid (Good w w1) := (wf2_good w N a n c).up hb1
  rw [wf2_size] at hb1
  obtain ⟨_, bx⟩ := wf2_cells hb1
  have r0 := bx.cell0
  have r1 := bx.cell1
  have q0 := bx.frozen 0
  have q1 := bx.frozen 1
  have s2 := bx.set2 (.int .i64 0) (.slice none 0 0)
  have s0 := s2.cell0
  have s1 := s2.cell1
  clear HO hb1 s2 bx
  go_wp2
  refine bodyPost_ret (v := .agg #[.int .i64 0, .slice none 0 0]) (by simp [results, Tryz.results43, go_sem, s0, s1]) rfl ⟨rfl, ?_⟩
  exact (HG.out.setCell (p := ⟨w.heap.size + 1, 0, none⟩) (by show _ ≤ w.heap.size + 1; omega) _).setCell (p := ⟨w.heap.size + 1, 1, none⟩) (by show _ ≤ w.heap.size + 1; omega) _
set_option maxRecDepth 100000 in
set_option maxHeartbeats 4000000 in
theorem iWebLabels_any (N : Int) (ls : List Ld) (n : Nat) (a : Option Addr) (c : Nat) (hn : n ≤ 1048576) (w : World) (h : Ls w w.heap.size a n ls) :
    Calls Tryz.prog 24 #[.agg #[.int .i64 N, .slice a n c]] w (IAns w (lbO N ls)) := by
  have hfa : Good w (wW w N a n c) := wW_good w N a n c
  by_cases hW : WOk N ls
  · obtain ⟨nn, rfl, hn1, hn12⟩ := gB_n hW.1
    obtain ⟨ts, hts, hall⟩ := hW.trees 0 (by omega)
    have hts : ftK (fE ls 0) nn nn = some ts := hts
    have HG := hideIt (groundOf_yes nn ls n a c hn hW ts hts _ (h.up hfa))
    have HR : Hid (∀ (a' : Option Addr) (m c' : Nat) (u : World), Ts u u.heap.size a' m ts → Calls Tryz.prog 52 #[.agg #[.int .i64 (nn : Int), .slice a' m c']] u fun e w' => ∃ g, e = .returned (.slice (some ⟨g, 0, none⟩) nn nn) ∧ w'.ownsRow u.heap.size 3 1 (.slice (some ⟨g, 0, none⟩) nn nn) nn (ic (labW ts nn)) ∧ Below u.heap.size u w') := fun a' m c' u hu => by
      refine (rootsOf_any nn ts m a' c' hn12 (by have := hu.1; have := hall.fp.2.2.1; omega) (ft_rng hall) hall.fp.q.2.1 u hu).mono fun e v ⟨g, L, h1, h2, h3, h4⟩ => ⟨g, h1, ?_, h4⟩
      rw [← labW_of hall (by have := h2.1; rw [ic_len] at this; omega) h3]
      exact h2
    have HL := hideIt (lbO_yes hW hts)
    clear h hW hts hall
    go_enter Tryz.func24, Tryz.ntmps24
    go_wp2_with (first | (go_at_call 43; refine HG.out.mono ?_; rintro e w1 ⟨a1, m1, c1, rfl, hT1, hb1⟩; have HR1 := HR.out a1 m1 c1 w1 hT1; clear hT1) | (go_at_call 52; refine HR1.mono ?_; rintro e w2 ⟨g2, rfl, ho2, hb2⟩))
    go_ret
    exact ⟨_, _, _, rfl, by rw [HL.out]; exact own_mono ho2 (by have := (hfa.up hb1).size; omega), (hfa.up hb1).up hb2⟩
  · have HG := hideIt (groundOf_no N ls n a c hn hW _ (h.up hfa))
    have HR : Hid (∀ (u : World), Calls Tryz.prog 52 #[.agg #[.int .i64 0, .slice none 0 0]] u fun e w' => ∃ g, e = .returned (.slice (some ⟨g, 0, none⟩) 0 0) ∧ w'.ownsRow u.heap.size 3 1 (.slice (some ⟨g, 0, none⟩) 0 0) 0 (ic []) ∧ Below u.heap.size u w') := fun u => by
      refine (rootsOf_any 0 [] 0 none 0 (by omega) (by omega) (by simp) List.Pairwise.nil u ⟨rfl, .inl rfl⟩).mono fun e v ⟨g, L, h1, h2, h3, h4⟩ => ⟨g, h1, ?_, h4⟩
      have : L = [] := by have := h2.1; rw [ic_len] at this; exact List.length_eq_zero_iff.1 (by omega)
      rw [← this]
      exact h2
    have HL := hideIt (lbO_no hW)
    clear h hW
    go_enter Tryz.func24, Tryz.ntmps24
    go_wp2_with (first | (go_at_call 43; refine HG.out.mono ?_; rintro e w1 ⟨rfl, hb1⟩) | (go_at_call 52; refine (HR.out _).mono ?_; rintro e w2 ⟨g2, rfl, ho2, hb2⟩))
    go_ret
    exact ⟨_, _, _, rfl, by rw [HL.out]; exact own_mono ho2 (by have := (hfa.up hb1).size; omega), (hfa.up hb1).up hb2⟩
set_option maxRecDepth 100000 in
set_option maxHeartbeats 4000000 in
theorem iWebTogether_any (N : Int) (ls : List Ld) (x y : Int) (n : Nat) (a : Option Addr) (c : Nat) (hn : n ≤ 1048576) (w : World) (h : Ls w w.heap.size a n ls) :
    Calls Tryz.prog 22 #[.agg #[.int .i64 N, .slice a n c], .int .i64 x, .int .i64 y] w fun e w' => e = .returned (.bool (tgB N ls x y)) ∧ Below w.heap.size w w' := by
  have hfa : Good w (wW w N a n c) := wW_good w N a n c
  by_cases hW : WOk N ls
  · obtain ⟨nn, rfl, hn1, hn12⟩ := gB_n hW.1
    obtain ⟨ts, hts, hall⟩ := hW.trees 0 (by omega)
    have hts : ftK (fE ls 0) nn nn = some ts := hts
    have HG := hideIt (groundOf_yes nn ls n a c hn hW ts hts _ (h.up hfa))
    have HR : Hid (∀ (v : Int) (a' : Option Addr) (m c' : Nat) (u : World), Ts u u.heap.size a' m ts → Calls Tryz.prog 45 #[.agg #[.int .i64 (nn : Int), .slice a' m c'], .int .i64 v] u fun e w' => e = .returned (.int .i64 (trI ts v)) ∧ Below u.heap.size u w') := fun v a' m c' u hu => by
      have := iTreeOf_any (nn : Int) ts v m a' c' (by have := hu.1; have := ft_lnS hall; omega) u hu
      rw [treeO_yes hall.fp] at this
      exact this
    have hvert : ∀ v : Int, 0 ≤ trI ts v ↔ 0 ≤ v ∧ v < (nn : Int) := fun v => by
      rw [← ft_in]
      constructor
      · intro hv
        obtain ⟨t, ht, hvt⟩ := List.mem_flatten.1 hv
        exact (ft_rng hall t ht).2.2 v hvt
      · rintro ⟨h0, h1⟩
        obtain ⟨t, ht, hvt⟩ := hall.cov v h0 h1
        exact List.mem_flatten.2 ⟨t, ht, hvt⟩
    have HB : Hid (∀ b : Bool, (b = true ↔ 0 ≤ trI ts x ∧ trI ts x = trI ts y) → b = tgB (nn : Int) ls x y) := fun b hb => tgB_is (by
      rw [hb, gndT_is hts]
      constructor
      · rintro ⟨h1, h2⟩
        exact ⟨hW, (hvert x).1 h1, (hvert y).1 (by omega), h2⟩
      · rintro ⟨_, h1, _, h2⟩
        exact ⟨(hvert x).2 h1, h2⟩)
    have hm1 : ∀ v, -1 ≤ trI ts v := fun v => by
      rcases trI_cases ts v with ⟨k, t, _, _, e⟩ | ⟨_, e⟩ <;> omega
    obtain ⟨p, hp⟩ : ∃ p, trI ts x = p := ⟨_, rfl⟩
    obtain ⟨q, hq⟩ : ∃ q, trI ts y = q := ⟨_, rfl⟩
    have HRx : Hid (∀ (a' : Option Addr) (m c' : Nat) (u : World), Ts u u.heap.size a' m ts → Calls Tryz.prog 45 #[.agg #[.int .i64 (nn : Int), .slice a' m c'], .int .i64 x] u fun e w' => e = .returned (.int .i64 p) ∧ Below u.heap.size u w') := by rw [← hp]; exact HR.out x
    have HRy : Hid (∀ (a' : Option Addr) (m c' : Nat) (u : World), Ts u u.heap.size a' m ts → Calls Tryz.prog 45 #[.agg #[.int .i64 (nn : Int), .slice a' m c'], .int .i64 y] u fun e w' => e = .returned (.int .i64 q) ∧ Below u.heap.size u w') := by rw [← hq]; exact HR.out y
    rw [hp, hq] at HB
    clear h hW hts hall hvert hm1 HR hp hq
    go_enter Tryz.func22, Tryz.ntmps22
    go_wp2_with (go_at_call 43; refine HG.out.mono ?_; rintro e w1 ⟨a1, m1, c1, rfl, hT1, hb1⟩; refine Hid.out ?_)
    refine (show ∀ {p : Prop}, p → Hid p from fun h => h) ?_
    have hba : Below w1.heap.size w1 (w1.alloc (.cells #[.int .i64 (nn : Int), .slice a1 m1 c1] 61)) := (Below.refl _ _).alloc (Nat.le_refl _) _
    have HX := hideIt (HRx.out a1 m1 c1 _ (hT1.up hba))
    have HT1 := hideIt (hT1.up hba)
    have HG1 := hideIt ((hfa.up hb1).up hba)
    clear hT1 hb1 hba HRx HG
    go_wp2_with (go_at_call 45; refine HX.out.mono ?_; rintro e w2 ⟨rfl, hb2⟩; refine Hid.out ?_)
    refine (show ∀ {p : Prop}, p → Hid p from fun h => h) ?_
    have c0 : w2.cell? ⟨w1.heap.size, 0, none⟩ = some (.int .i64 (nn : Int)) := by rw [hb2.cell (by simp)]; simp
    have c1' : w2.cell? ⟨w1.heap.size, 1, none⟩ = some (.slice a1 m1 c1) := by rw [hb2.cell (by simp)]; simp
    have HY := hideIt (HRy.out a1 m1 c1 w2 (HT1.out.up hb2))
    have HG2 := hideIt (HG1.out.up hb2)
    clear HX HT1 HG1 HRy hb2
    by_cases h0 : 0 ≤ p
    · have d0 : decide (0 ≤ p) = true := decide_eq_true h0
      by_cases hpq : p = q
      · have HBt := hideIt (HB.out true ⟨fun _ => ⟨h0, hpq⟩, fun _ => rfl⟩)
        have d1 : (p == q) = true := by simpa using hpq
        have HPQ := hideIt hpq
        clear HB hpq
        go_wp2_with (go_at_call 45; refine HY.out.mono ?_; rintro e w3 ⟨rfl, hb3⟩)
        go_ret
        exact ⟨by rw [← HBt.out]; rfl, HG2.out.up hb3⟩
      · have HBt := hideIt (HB.out false ⟨fun h => (by cases h), fun h => absurd h.2 hpq⟩)
        have d1 : (p == q) = false := by simpa using hpq
        clear HB hpq
        go_wp2_with (go_at_call 45; refine HY.out.mono ?_; rintro e w3 ⟨rfl, hb3⟩)
        go_ret
        exact ⟨by rw [← HBt.out]; rfl, HG2.out.up hb3⟩
    · have d0 : decide (0 ≤ p) = false := decide_eq_false h0
      have HBt := hideIt (HB.out false ⟨fun h => (by cases h), fun h => absurd h.1 h0⟩)
      clear HB
      go_wp2
      go_ret
      exact ⟨by rw [← HBt.out]; rfl, HG2.out⟩
  · have HG := hideIt (groundOf_no N ls n a c hn hW _ (h.up hfa))
    have HR : Hid (∀ (u : World), Calls Tryz.prog 45 #[.agg #[.int .i64 0, .slice none 0 0], .int .i64 x] u fun e w' => e = .returned (.int .i64 (-1)) ∧ Below u.heap.size u w') := fun u => by
      have := iTreeOf_any 0 [] x 0 none 0 (by simp [lnS]) u ⟨rfl, .inl rfl⟩
      rw [treeO_no (fun h => by have := h.1; omega)] at this
      exact this
    have HBt := hideIt (tgB_is (N := N) (ls := ls) (x := x) (y := y) (b := false) ⟨fun h => (by cases h), fun h => absurd h.1 hW⟩)
    clear h hW
    go_enter Tryz.func22, Tryz.ntmps22
    go_wp2_with (first | (go_at_call 43; refine HG.out.mono ?_; rintro e w1 ⟨rfl, hb1⟩) | (go_at_call 45; refine (HR.out _).mono ?_; rintro e w2 ⟨rfl, hb2⟩))
    go_ret
    exact ⟨by rw [← HBt.out]; rfl, ((hfa.up hb1).alloc _).up hb2⟩
end Go.Proofs.YtgjngaaibcmgmabGreat
namespace Go.Proofs.YtgjngaaibcmgmabGreat
open Go.RowKit

/-- labels in the making beside a forest: nothing else has turned -/
structure LbSt (w : World) (N : Int) (a : Option Addr) (n c : Nat) (lo X : Nat) (a2 : Option Addr) (m2 c2 : Nat) (R : List Rw) (g m co : Nat) (L : List Int) (u : World) : Prop where
  own : u.ownsRow (w.heap.size + 1) 3 1 (.slice (some ⟨g, 0, none⟩) m co) m (ic L)
  box : Box7 u X 61 (.int .i64 N) (.slice a2 m2 c2)
  fb : FB u lo u.heap.size a2 m2 c2 R
  apart : ∀ x ∈ R, g ≠ x.g
  bel : Below (w.heap.size + 1) (wW w N a n c) u
theorem LbSt.size {w : World} {N : Int} {a : Option Addr} {n c lo X : Nat} {a2 : Option Addr} {m2 c2 : Nat} {R : List Rw} {g m co : Nat} {L : List Int} {u : World} (h : LbSt w N a n c lo X a2 m2 c2 R g m co L u) : w.heap.size + 1 ≤ u.heap.size := by have := h.bel.size; rw [wW_size] at this; exact this
theorem LbSt.up {w : World} {N : Int} {a : Option Addr} {n c lo X : Nat} {a2 : Option Addr} {m2 c2 : Nat} {R : List Rw} {g m co : Nat} {L : List Int} {u v : World} (h : LbSt w N a n c lo X a2 m2 c2 R g m co L u) (hb : Below u.heap.size u v) : LbSt w N a n c lo X a2 m2 c2 R g m co L v :=
  ⟨own_up h.own hb, h.box.up hb, h.fb.keep hb, h.apart, h.bel.trans (hb.mono h.size)⟩
theorem LbSt.app {w : World} {N : Int} {a : Option Addr} {n c lo X : Nat} {a2 : Option Addr} {m2 c2 : Nat} {R : List Rw} {g m co : Nat} {L : List Int} {u u' : World} (h : LbSt w N a n c lo X a2 m2 c2 R g m co L u) {G cap : Nat} {y : Int}
    (ho : u'.ownsRow (w.heap.size + 1) 3 1 (.slice (some ⟨G, 0, none⟩) (m + 1) cap) (m + 1) (ic L ++ [.int .i64 y])) (hg : u.grownBy u' (some g)) (hG : g = G ∨ G = u.heap.size) : LbSt w N a n c lo X a2 m2 c2 R G (m + 1) cap (L ++ [y]) u' := by
  rw [← ic_snoc] at ho
  have hne : X ≠ g := fun e => by
    have hb : u.heap[X]? = some (.cells #[.int .i64 N, .slice a2 m2 c2] 61 (0, 0)) := h.box
    obtain ⟨cur, h2⟩ := own_blk h.own
    rw [e, h2] at hb
    simp at hb
  refine ⟨ho, h.box.grown hg (by simpa using hne), h.fb.other h.own (by decide) (fun r hr e => h.apart r hr (by simpa [Value.ownBlock] using e)) hg, fun x hx e => ?_, ?_⟩
  · rcases hG with h1 | h1
    · exact h.apart x hx (by omega)
    · have := (h.fb.ins x hx).2.2; omega
  · exact h.bel.grown hg h.size (fun j hj => by cases hj; exact (h.own.lt g rfl).1)
/-- the first of a right tour's vertices -/
theorem vertsFirst9 {w2 : World} {q : List Int} (hB : tB q = true) (y : Option Addr) (cy : Nat) (hfq : q.length ≤ 3000000) (u : World) (hu : Good w2 u) (h : Is u u.heap.size y q.length q) :
    Calls Tryz.prog 33 #[.slice y q.length cy] u fun e v => ∃ g3 m3 c3, e = .returned (.slice (some ⟨g3, 0, none⟩) m3 c3) ∧ 0 < m3 ∧ v.cell? ⟨g3, 0, none⟩ = some (.int .i64 (mnV q)) ∧ g3 < v.heap.size ∧ Good w2 v :=
  (sVertsOf_any q q.length y cy hfq u h).mono fun e v ⟨a3, m3, c3, he, ho, hb⟩ => by
    have hm : (vsL q).length = m3 := by have := ho.1; rw [ic_len] at this; omega
    have hp : 0 < m3 := by have := vs_pos hB; omega
    obtain ⟨g, c3', hf, _⟩ := ho.form hp
    simp at hf
    obtain ⟨rfl, rfl⟩ := hf
    exact ⟨g, m3, c3, he, hp, by rw [ho.cellAt 0 (by omega)]; exact ic_at (vs_first hB), (ho.lt g rfl).2, hu.up hb⟩

set_option maxRecDepth 100000 in
set_option maxHeartbeats 4000000 in
theorem sWebLabels_any (N : Int) (ls : List Ld) (n : Nat) (a : Option Addr) (c : Nat) (hn : n ≤ 1048576) (w : World) (h : Ls w w.heap.size a n ls) :
    Calls Tryz.prog 23 #[.agg #[.int .i64 N, .slice a n c]] w (IAns w (lbO N ls)) := by
  obtain ⟨i0, hi, hz0, hz1, hz2⟩ := info_parts info3i
  have hfa : Good w (wW w N a n c) := wW_good w N a n c
  have hf2 : Good (wW w N a n c) ((wW w N a n c).alloc (.cells #[] 3)) := (Good.refl _).alloc _
  have HO := sWebOk_any N ls n a c hn _ ((h.up hfa).up hf2)
  by_cases hW : WOk N ls
  · obtain ⟨nn, rfl, hn1, hn12⟩ := gB_n hW.1
    obtain ⟨ts, hts, hall⟩ := hW.trees 0 (by omega)
    have hts : ftK (fE ls 0) nn nn = some ts := hts
    rw [wB_yes hW] at HO
    have HO := hideIt HO
    have HF : Hid (∀ u, Good (wW w (nn : Int) a n c) u → Calls Tryz.prog 32 #[.agg #[.int .i64 (nn : Int), .slice a n c], .int .i64 0] u (FAn9 u (nn : Int) (some ts))) := fun u hu => by
      have := sForestAt_any nn ls 0 n a c hn1 hn12 hW.1 u ((h.up hfa).up hu)
      rw [hts] at this
      exact this
    have HL := hideIt (lbO_yes hW hts)
    have HAll := hideIt hall
    have HO0 : Hid (((wW w (nn : Int) a n c).alloc (.cells #[] 3)).ownsRow (w.heap.size + 1) 3 1 (.slice (some ⟨w.heap.size + 1, 0, none⟩) 0 0) 0 (ic [])) := by
      show World.ownsRow _ _ _ _ _ _ _
      have h0 := World.ownsRow_lit (base := w.heap.size + 1) (e := 3) (size := 1) (wW w (nn : Int) a n c) #[] 0 (by rw [wW_size]; omega) (by unfold maxLen; omega) (by simp)
      rw [wW_size] at h0
      simpa [ic] using h0
    clear h hW hts hall
    go_enter Tryz.func23, Tryz.ntmps23
    go_wp2_with (go_at_call 9; refine HO.out.mono ?_; rintro e w1 ⟨rfl, hb1⟩; refine Hid.out ?_)
    refine (show ∀ {p : Prop}, p → Hid p from fun h => h) ?_
    have G1 : Good (wW w (nn : Int) a n c) w1 := hf2.up hb1
    have HO1 := hideIt (own_up HO0.out hb1)
    have G1b : Below (w.heap.size + 1) (wW w (nn : Int) a n c) w1 := by have := G1; unfold Good at this; rwa [wW_size] at this
    obtain ⟨cw0, cw1⟩ := wW_cells G1b
    have HF1 := hideIt (HF.out w1 G1)
    clear HO HO0 hb1 HF G1b
    go_wp2_with (go_at_call 32; refine HF1.out.mono ?_; rintro e w2 ⟨a2, m2, c2, R2, rfl, hF2, hR2, hb2⟩; refine Hid.out ?_)
    refine (show ∀ {p : Prop}, p → Hid p from fun h => h) ?_
    simp only [Option.getD_some] at hR2
    have hT2 : Ts w2 w2.heap.size a2 m2 ts := by rw [← hR2]; exact hF2.ts
    obtain ⟨W, hW⟩ : ∃ W, W = w2.alloc (.cells #[.int .i64 (nn : Int), .slice a2 m2 c2] 61) := ⟨_, rfl⟩
    have hbW : Below w2.heap.size w2 W := by rw [hW]; exact (Below.refl _ _).alloc (Nat.le_refl _) _
    have hzW : W.heap.size = w2.heap.size + 1 := by rw [hW]; simp
    have G2 := (G1.up hb2).up hbW
    have HO2 := hideIt (own_up (own_up HO1.out hb2) hbW)
    have zW := G2.size
    rw [wW_size] at zW
    have HTs := hideIt (hT2.up hbW)
    have hz2' : w.heap.size + 1 ≤ w2.heap.size := by have := (G1.up hb2).size; rw [wW_size] at this; exact this
    have HR2 := hideIt hR2
    have HSt0 : Hid (LbSt w (nn : Int) a n c w1.heap.size w2.heap.size a2 m2 c2 R2 (w.heap.size + 1) 0 0 ((labW ts nn).take 0) W) := by
      refine ⟨by simpa using HO2.out, by rw [hW]; exact Box7.new _ _ _ _ _ rfl, hF2.keep hbW, fun x hx e => ?_, ?_⟩
      · have := (hF2.ins x hx).2.1
        have := (HO1.out.lt (w.heap.size + 1) rfl).2
        omega
      · have := G2; unfold Good at this; rwa [wW_size] at this
    have hm12 : m2 ≤ 12 := by have := HAll.out.fp.2.2.1; have := HTs.out.1; omega
    clear HF1 HO1 hF2 hR2 hT2 hb2 hbW G1 G2 cw0 cw1 HO2
    go_wp2
    rw [← hW]
    go_loopw [3, 6] (fun r i wr => ∃ (k g co : Nat), k ≤ nn ∧ i = .int .i64 (k : Int) ∧ r = .slice (some ⟨g, 0, none⟩) k co ∧ LbSt w (nn : Int) a n c w1.heap.size w2.heap.size a2 m2 c2 R2 g k co ((labW ts nn).take k) wr) (fun _ i _ => nn - (intOf i).toNat)
    case atStart => exact ⟨0, _, 0, by omega, rfl, rfl, HSt0.out⟩
    case round =>
      obtain ⟨k, g, co, hk, rfl, rfl, hst⟩ := hrel
      clear HSt0
      have cw0 := (wW_cells hst.bel).1
      by_cases hlt : k < nn
      · obtain ⟨t, htm, hvt⟩ := HAll.out.cov (k : Int) (by omega) (by omega)
        obtain ⟨kt, hkt⟩ := List.mem_iff_getElem?.1 htm
        have htr := trI_of HAll.out.fp.q hkt hvt
        have hB := (HAll.out.fp.q.1 t htm).1
        have hl23 := tB_len hB
        have HLab := hideIt (labW_at HAll.out hlt htm hvt)
        have hktl := (List.getElem?_eq_some_iff.1 hkt).1
        rcases (show Ts wr wr.heap.size a2 m2 ts by rw [← HR2.out]; exact hst.fb.ts).2 with hz | ⟨b, off, rfl, hbl, hc⟩
        · have := HTs.out.1; omega
        obtain ⟨x, cx, e0, iI, _⟩ := hc kt t hkt
        have HSt := hideIt hst
        have HKt := hideIt hkt
        have HRw : Hid (∀ {g' k' co' : Nat} {L' : List Int} (u : World), LbSt w (nn : Int) a n c w1.heap.size w2.heap.size (some ⟨b, off, none⟩) m2 c2 R2 g' k' co' L' u → u.cell? ⟨b, off + kt, none⟩ = some (.slice x t.length cx)) := fun {g' k' co' L'} u hu => by
          have hoff : off = 0 := by
            rcases hu.fb.own.2 with ⟨h3, _⟩ | ⟨g3, cap, cur, hv, _⟩
            · simp at h3
            · simp at hv; omega
          subst hoff
          have hj : kt < R2.length := by rw [← rts_len, HR2.out]; exact hktl
          have h1 : u.cell? ⟨b, kt, none⟩ = (rhs R2)[kt]? := hu.fb.own.cellAt kt (by have := hu.fb.len; omega)
          have h2 : wr.cell? ⟨b, kt, none⟩ = (rhs R2)[kt]? := HSt.out.fb.own.cellAt kt (by have := HSt.out.fb.len; omega)
          rw [Nat.zero_add] at e0 ⊢
          rw [h1, ← h2]
          exact e0
        have HTr : Hid (∀ u, Good wr u → Calls Tryz.prog 34 #[.agg #[.int .i64 (nn : Int), .slice (some ⟨b, off, none⟩) m2 c2], .int .i64 (k : Int)] u fun e w' => e = .returned (.int .i64 (kt : Int)) ∧ Good wr w') := fun u hu => by
          have hT : Ts u u.heap.size (some ⟨b, off, none⟩) m2 ts := by rw [← HR2.out]; exact (HSt.out.up hu).fb.ts
          have := sTreeOf_any (nn : Int) ts (k : Int) m2 (some ⟨b, off, none⟩) c2 (by have := hT.1; have := ft_lnS HAll.out; omega) u hT
          rw [treeO_yes HAll.out.fp, htr] at this
          exact this.mono fun e u' ⟨h1, h2⟩ => ⟨h1, hu.up h2⟩
        have HVf : Hid (∀ u, Good wr u → Calls Tryz.prog 33 #[.slice x t.length cx] u fun e v => ∃ g3 m3 c3, e = .returned (.slice (some ⟨g3, 0, none⟩) m3 c3) ∧ 0 < m3 ∧ v.cell? ⟨g3, 0, none⟩ = some (.int .i64 (mnV t)) ∧ g3 < v.heap.size ∧ Good wr v) := fun u hu => vertsFirst9 hB x cx (by omega) u hu (iI.up hu)
        have HS : Hid (∀ u, Good wr u → (u.cell? ⟨w2.heap.size, 0, none⟩ = some (.int .i64 (nn : Int)) ∧ u.cell? ⟨w2.heap.size, 1, none⟩ = some (.slice (some ⟨b, off, none⟩) m2 c2)) ∧ u.cell? ⟨b, off + kt, none⟩ = some (.slice x t.length cx)) := fun u hu => ⟨⟨(HSt.out.up hu).box.cell0, (HSt.out.up hu).box.cell1⟩, HRw.out u (HSt.out.up hu)⟩
        have g0 : Good wr wr.drew := (Good.refl _).drew
        have b1 : (0 : Int) ≤ (kt : Int) := by omega
        have b2 : (kt : Int) < (m2 : Int) := by have := HTs.out.1; omega
        have hkl : k < (labW ts nn).length := by rw [labW_len]; exact hlt
        have HTk : Hid ((labW ts nn).take (k + 1) = (labW ts nn).take k ++ [mnV t]) := take_snocF _ _ _ HLab.out
        clear hst htm hvt hkt htr hB hc e0 iI hkl hktl
        go_upto_region 8 with fail
        refine wp_region_held_drew (S := (fun u => (u.cell? ⟨w2.heap.size, 0, none⟩ = some (.int .i64 (nn : Int)) ∧ u.cell? ⟨w2.heap.size, 1, none⟩ = some (.slice (some ⟨b, off, none⟩) m2 c2)) ∧ u.cell? ⟨b, off + kt, none⟩ = some (.slice x t.length cx))) (by kernel_rfl) (HS.out _ g0) (fun hHeld => ?_)
        refine wpAnyH_take (i := 0) (v := ?_) rfl (by kernel_rfl) (by kernel_rfl) (by kernel_rfl) (fun _ _ _ h => h) (Or.inl ⟨by rfl, ?_⟩) (by assumption) ?_
        rotate_left
        · intro w hSw; (try dsimp only at hSw); go_simp; try with_reducible rfl
        try simp only [Act.put, List.getElem_toArray, List.getElem_cons_zero, List.setIfInBounds_toArray, List.set_cons_zero, List.set_cons_succ]
        refine wpAnyH_take (i := 1) (v := ?_) rfl (by kernel_rfl) (by kernel_rfl) (by kernel_rfl) (fun _ _ _ h => h) (Or.inl ⟨by rfl, ?_⟩) (by assumption) ?_
        rotate_left
        · intro w hSw; (try dsimp only at hSw); go_simp; try with_reducible rfl
        try simp only [Act.put, List.getElem_toArray, List.getElem_cons_succ, List.getElem_cons_zero, List.setIfInBounds_toArray, List.set_cons_zero, List.set_cons_succ]
        refine wpAnyH_take (i := 2) (v := ?_) rfl (by kernel_rfl) (by kernel_rfl) (by kernel_rfl) (fun _ _ _ h => h) (Or.inl ⟨by rfl, ?_⟩) (by assumption) ?_
        rotate_left
        · intro w hSw; (try dsimp only at hSw); go_simp; try with_reducible rfl
        try simp only [Act.put, List.getElem_toArray, List.getElem_cons_succ, List.getElem_cons_zero, List.setIfInBounds_toArray, List.set_cons_zero, List.set_cons_succ]
        refine wpAnyH_take (i := 3) (v := ?_) rfl (by kernel_rfl) (by kernel_rfl) (by kernel_rfl) (fun _ _ _ h => h) (Or.inl ⟨by rfl, ?_⟩) (by assumption) ?_
        rotate_left
        · intro w hSw; (try dsimp only at hSw); go_simp; try with_reducible rfl
        try simp only [Act.put, List.getElem_toArray, List.getElem_cons_succ, List.getElem_cons_zero, List.setIfInBounds_toArray, List.set_cons_zero, List.set_cons_succ]
        refine wpAnyH_take (i := 4) (v := ?_) rfl (by kernel_rfl) (by kernel_rfl) (by kernel_rfl) (fun _ _ _ h => h) (Or.inl ⟨by rfl, ?_⟩) (by assumption) ?_
        rotate_left
        · intro w hSw; (try dsimp only at hSw); go_simp; try with_reducible rfl
        try simp only [Act.put, List.getElem_toArray, List.getElem_cons_succ, List.getElem_cons_zero, List.setIfInBounds_toArray, List.set_cons_zero, List.set_cons_succ]
        refine wpAnyH_ready (rs := [5]) (by kernel_rfl) (by simp) ?_
        refine AllReadyH.cons rfl (fun K hK => ?_) AllReadyH.nil
        rw [if_pos (show Region.wanted _ _ = true by rfl)]
        go_wp2_with (go_at_call 34; refine (HTr.out _ g0).mono ?_; rintro e w4 ⟨rfl, g4⟩; refine Hid.out ?_)
        refine (show ∀ {p : Prop}, p → Hid p from fun h => h) ?_
        refine hK.out _ _ (HS.out _ g4) (fun hHeld => ?_)
        clear hK K
        try simp only [Act.put, List.getElem_toArray, List.getElem_cons_succ, List.getElem_cons_zero, List.setIfInBounds_toArray, List.set_cons_zero, List.set_cons_succ]
        refine wpAnyH_ready (rs := [6]) (by kernel_rfl) (by simp) ?_
        refine AllReadyH.cons rfl (fun K hK => ?_) AllReadyH.nil
        go_simp
        refine hK.out _ _ (by assumption) (fun hHeld => ?_)
        clear hK K
        try simp only [Act.put, List.getElem_toArray, List.getElem_cons_succ, List.getElem_cons_zero, List.setIfInBounds_toArray, List.set_cons_zero, List.set_cons_succ]
        refine wpAnyH_ready (rs := [7]) (by kernel_rfl) (by simp) ?_
        refine AllReadyH.cons rfl (fun K hK => ?_) AllReadyH.nil
        go_simp
        refine hK.out _ _ (by assumption) (fun hHeld => ?_)
        clear hK K
        try simp only [Act.put, List.getElem_toArray, List.getElem_cons_succ, List.getElem_cons_zero, List.setIfInBounds_toArray, List.set_cons_zero, List.set_cons_succ]
        refine wpAnyH_ready (rs := [8]) (by kernel_rfl) (by simp) ?_
        refine AllReadyH.cons rfl (fun K hK => ?_) AllReadyH.nil
        rw [if_pos (show Region.wanted _ _ = true by rfl)]
        go_wp2_with (go_at_call 33; refine (HVf.out _ g4).mono ?_; rintro e w5 ⟨g5, m5, c5, rfl, hm5, hc5, hl5, g5'⟩; refine Hid.out ?_)
        refine (show ∀ {p : Prop}, p → Hid p from fun h => h) ?_
        refine hK.out _ _ (HS.out _ g5') (fun hHeld => ?_)
        clear hK K
        try simp only [Act.put, List.getElem_toArray, List.getElem_cons_succ, List.getElem_cons_zero, List.setIfInBounds_toArray, List.set_cons_zero, List.set_cons_succ]
        refine wpAnyH_ready (rs := [9]) (by kernel_rfl) (by simp) ?_
        refine AllReadyH.cons rfl (fun K hK => ?_) AllReadyH.nil
        go_simp
        refine hK.out _ _ (by assumption) (fun hHeld => ?_)
        clear hK K
        try simp only [Act.put, List.getElem_toArray, List.getElem_cons_succ, List.getElem_cons_zero, List.setIfInBounds_toArray, List.set_cons_zero, List.set_cons_succ]
        refine wpAnyH_ready (rs := [10]) (by kernel_rfl) (by simp) ?_
        refine AllReadyH.cons rfl (fun K hK => ?_) AllReadyH.nil
        go_simp
        refine hK.out _ _ (by assumption) (fun hHeld => ?_)
        clear hK K
        try simp only [Act.put, List.getElem_toArray, List.getElem_cons_succ, List.getElem_cons_zero, List.setIfInBounds_toArray, List.set_cons_zero, List.set_cons_succ]
        refine wpAnyH_ready (rs := [11]) (by kernel_rfl) (by simp) ?_
        refine AllReadyH.cons rfl (fun K hK => ?_) AllReadyH.nil
        go_simp
        refine hK.out _ _ (HS.out _ (g5'.alloc _)) (fun hHeld => ?_)
        clear hK K
        try simp only [Act.put, List.getElem_toArray, List.getElem_cons_succ, List.getElem_cons_zero, List.setIfInBounds_toArray, List.set_cons_zero, List.set_cons_succ]
        refine wpAnyH_ready (rs := [12]) (by kernel_rfl) (by simp) ?_
        refine AllReadyH.cons rfl (fun K hK => ?_) AllReadyH.nil
        refine step_append_lies _ (by rfl) _ _ _ (by rfl) (w.heap.size + 1) 3 i0 _ 1 8 Tryz.underlying46 hi hz0 hz1 hz2 rfl (by decide) _ k _ (by rfl) ((HSt.out.up (g5'.alloc (.cells #[.int .i64 (mnV t)] 3))).own) ⟨w5.heap.size, 0, none⟩ 1 1 [.int .i64 (mnV t)] (by rfl) (by rfl) (newsI w5 (mnV t)) (by intro u hu; simp at hu; subst hu; rfl) (by omega) (by unfold maxLen; omega) (by omega) (by have := (HSt.out.up (g5'.alloc (.cells #[.int .i64 (mnV t)] 3))).size; omega) (w5.heap.size + 1) (by simp) ?_
        intro g6 c6 w6 hown6 hg6 hat6 hlt6
        have S6 := (HSt.out.up (g5'.alloc (.cells #[.int .i64 (mnV t)] 3))).app hown6 hg6 (hat6.imp (fun h1 => by simpa [Value.ownBlock] using h1) (fun h1 => by simpa using h1))
        refine hK.out _ _ ⟨⟨S6.box.cell0, S6.box.cell1⟩, HRw.out _ S6⟩ (fun hHeld => ?_)
        clear hK K
        try simp only [Act.put, List.getElem_toArray, List.getElem_cons_succ, List.getElem_cons_zero, List.setIfInBounds_toArray, List.set_cons_zero, List.set_cons_succ]
        refine wpAnyH_ready (rs := [13]) (by kernel_rfl) (by simp) ?_
        refine AllReadyH.cons rfl (fun K hK => ?_) AllReadyH.nil
        go_simp
        refine hK.out _ _ (by assumption) (fun hHeld => ?_)
        clear hK K
        try simp only [Act.put, List.getElem_toArray, List.getElem_cons_succ, List.getElem_cons_zero, List.setIfInBounds_toArray, List.set_cons_zero, List.set_cons_succ]
        refine wpAnyH_done (by kernel_rfl) ?_ _
        have HS6 := hideIt S6
        clear S6 hown6 hg6 hat6 hlt6 hc5 hl5 hHeld
        go_wp2
        exact ⟨⟨k + 1, g6, c6, by omega, by go_num, rfl, by rw [HTk.out]; exact HS6.out⟩, by simp [intOf]; omega⟩
      · obtain rfl : k = nn := by omega
        have HT : Hid ((labW ts k).take k = labW ts k) := by show _ = _; rw [List.take_of_length_le (by rw [labW_len]; omega)]
        have HSt := hideIt hst
        clear hst
        go_wp2
        go_ret
        exact ⟨_, _, _, rfl, by rw [HL.out, ← HT.out]; exact own_mono HSt.out.own (by omega), hfa.trans (HSt.out.bel.mono (by omega))⟩
  · rw [wB_no hW] at HO
    have HO := hideIt HO
    have HL := hideIt (lbO_no hW)
    have HO0 : Hid (((wW w N a n c).alloc (.cells #[] 3)).ownsRow (w.heap.size + 1) 3 1 (.slice (some ⟨w.heap.size + 1, 0, none⟩) 0 0) 0 (ic [])) := by
      show World.ownsRow _ _ _ _ _ _ _
      have h0 := World.ownsRow_lit (base := w.heap.size + 1) (e := 3) (size := 1) (wW w N a n c) #[] 0 (by rw [wW_size]; omega) (by unfold maxLen; omega) (by simp)
      rw [wW_size] at h0
      simpa [ic] using h0
    clear h hW
    go_enter Tryz.func23, Tryz.ntmps23
    go_wp2_with (go_at_call 9; refine HO.out.mono ?_; rintro e w1 ⟨rfl, hb1⟩)
    go_ret
    exact ⟨_, _, _, rfl, by rw [HL.out]; exact own_mono (own_up HO0.out hb1) (by omega), (hfa.up hf2).up hb1⟩
end Go.Proofs.YtgjngaaibcmgmabGreat
namespace Go.Proofs.YtgjngaaibcmgmabGreat
open Go.RowKit

theorem GrowL_zero (w : World) : Calls Tryz.prog 75 #[.slice none 0 0, .int .i64 0] w fun e w' => e = .returned (.slice none 0 0) ∧ w' = w := by
  go_enter Tryz.func75, Tryz.ntmps75
  go_wp2
  go_ret
  exact ⟨rfl, rfl⟩
theorem GrowL_some (n : Nat) (hn0 : 0 < n) (hn : n ≤ 10000000) (w : World) :
    Calls Tryz.prog 75 #[.slice none 0 0, .int .i64 (n : Int)] w fun e w' => ∃ a' c', e = .returned (.slice a' 0 c') ∧ w'.ownsRow w.heap.size 58 4 (.slice a' 0 c') 0 [] ∧ Below w.heap.size w w' := by
  obtain ⟨i0, hi, hz0, hz1, hz2⟩ := info_parts infoIL
  have hold : (Builtin.firstCells i0.size 0 (.slice none 0 0)).run Tryz.prog w.drew = .ok ([] : List Value).toArray w.drew := run_firstCells_none w.drew i0.size 0 0 0
  have hrz : ∀ ty, (Builtin.append_ #[27, 3] ty #[.slice none 0 0, .int .i64 (n : Int)]).run Tryz.prog w = _ := fun ty =>
    Lib.run_append_grow_zeros w 27 3 ty 58 i0 _ .i64 .i64 Tryz.underlying27 Tryz.underlying3 hi hz0 none 0 0 [] hold n hn0 (by rw [hz1]; omega) (by omega) (by omega)
      (by rw [hz2]; omega) (by rw [Nat.zero_add]; exact growslice_fits (by omega) (by rw [hz2]; omega))
  have hGn : 0 + n ≤ grownCap w (0 + n) 0 58 := grownCap_ge w _ _ _
  have hGm : grownCap w (0 + n) 0 58 ≤ maxLen := grownCap_le_maxLen w (0 + n) 0 58 (by unfold maxLen; omega)
  obtain ⟨G, hG⟩ : ∃ G, G = grownCap w (0 + n) 0 58 := ⟨_, rfl⟩
  rw [← hG] at hGn hGm
  have hrz2 : ∀ ty, (Builtin.append_ #[27, 3] ty #[.slice none 0 0, .int .i64 (n : Int)]).run Tryz.prog w = .ok (.slice (some ⟨w.heap.size, 0, none⟩) n G) (w.drew.alloc (.cells (Builtin.zeroCells #[.int .i64 0, .int .i64 0, .int .i64 0, .bool false] n ++ Builtin.zeroCells #[.int .i64 0, .int .i64 0, .int .i64 0, .bool false] (G - n)) 58)) := fun ty => by
    rw [hrz ty, ← hG]
    simp [Value.cells]
  have hsz : (Builtin.zeroCells #[.int .i64 0, .int .i64 0, .int .i64 0, .bool false] n ++ Builtin.zeroCells #[.int .i64 0, .int .i64 0, .int .i64 0, .bool false] (G - n)).size = G * 4 := by
    simp [Builtin.zeroCells]
    omega
  have HO := hideIt (show (w.drew.alloc (.cells (Builtin.zeroCells #[.int .i64 0, .int .i64 0, .int .i64 0, .bool false] n ++ Builtin.zeroCells #[.int .i64 0, .int .i64 0, .int .i64 0, .bool false] (G - n)) 58)).ownsRow w.heap.size 58 4 (.slice (some ⟨w.heap.size, 0, none⟩) 0 G) 0 [] from
    ⟨rfl, .inr ⟨w.heap.size, G, _, rfl, Nat.le_refl _, heap_alloc_new w.drew _, by omega, hGm, hsz, rfl⟩⟩)
  have HB := hideIt (show Below w.heap.size w (w.drew.alloc (.cells (Builtin.zeroCells #[.int .i64 0, .int .i64 0, .int .i64 0, .bool false] n ++ Builtin.zeroCells #[.int .i64 0, .int .i64 0, .int .i64 0, .bool false] (G - n)) 58)) from (Below.refl _ _).drew.alloc (Nat.le_refl _) _)
  generalize (w.drew.alloc (.cells (Builtin.zeroCells #[.int .i64 0, .int .i64 0, .int .i64 0, .bool false] n ++ Builtin.zeroCells #[.int .i64 0, .int .i64 0, .int .i64 0, .bool false] (G - n)) 58)) = W at hrz2 HO HB
  have g1 : (0 : Int) ≤ (G : Int) := by omega
  have d0 : decide ((0 : Int) < (n : Int)) = true := decide_eq_true (by omega)
  have d1 : decide ((n : Int) < 0) = false := decide_eq_false (by omega)
  unfold maxLen at hGm
  clear hrz hold hG hsz
  go_enter Tryz.func75, Tryz.ntmps75
  go_wp2_with (at_builtin; refine Lib.wpList_append_run _ rfl _ _ _ _ rfl _ _ rfl rfl _ _ (hrz2 _) ?_)
  all_goals
    go_ret
    exact ⟨_, _, rfl, HO.out, HB.out⟩
/-- one of the lists that are put together -/
structure PartL where
  a : Option Addr
  m : Nat
  c : Nat
  es : List Ld
/-- the lists stand in block b -/
def PartsL (w : World) (b : Nat) (ps : List PartL) : Prop :=
  b < w.heap.size ∧ ∀ (j : Nat) (p : PartL), ps[j]? = some p → w.cell? ⟨b, j, none⟩ = some (.slice p.a p.m p.c) ∧ Ls w w.heap.size p.a p.m p.es ∧ (p.a = none → p.m = 0 ∧ p.c = 0)
def pLenL (ps : List PartL) : Nat := (ps.map fun p => p.m).sum
def pAllL (ps : List PartL) : List Ld := ps.flatMap fun p => p.es
theorem pLenL_snoc (ps : List PartL) (p : PartL) : pLenL (ps ++ [p]) = pLenL ps + p.m := by simp [pLenL]
theorem pAllL_snoc (ps : List PartL) (p : PartL) : pAllL (ps ++ [p]) = pAllL ps ++ p.es := by simp [pAllL]
theorem pLenL_take (ps : List PartL) (k : Nat) : pLenL (ps.take k) ≤ pLenL ps := by
  have h := congrArg pLenL (List.take_append_drop k ps)
  have e : ∀ a b : List PartL, pLenL (a ++ b) = pLenL a + pLenL b := fun a b => by simp [pLenL]
  rw [e] at h
  omega
theorem pAllL_len {w : World} {b : Nat} {ps : List PartL} (h : PartsL w b ps) (k : Nat) : (pAllL (ps.take k)).length = pLenL (ps.take k) := by
  induction k with
  | zero => simp [pAllL, pLenL]
  | succ k ih =>
    by_cases hk : k < ps.length
    · obtain ⟨p, hp⟩ : ∃ p, ps[k]? = some p := ⟨ps[k], List.getElem?_eq_getElem hk⟩
      rw [take_snocF ps k p hp, pAllL_snoc, pLenL_snoc, List.length_append, ih, (h.2 k p hp).2.1.1]
    · rw [List.take_of_length_le (by omega), ← List.take_of_length_le (by omega : ps.length ≤ k)]; exact ih
theorem Ls.news {w : World} {B b off n : Nat} {ls : List Ld} (h : Ls w B (some ⟨b, off, none⟩) n ls) : ∀ j u, (lcells ls)[j]? = some u → w.cell? ((⟨b, off, none⟩ : Addr).add j) = some u := by
  intro j u hj
  have hl : j < ls.length * 4 := by have := (List.getElem?_eq_some_iff.1 hj).1; rw [lcells_length] at this; exact this
  have hn := h.1
  rcases h.2 with h0 | ⟨b', off', hb, _, hc⟩
  · omega
  · simp at hb
    obtain ⟨rfl, rfl⟩ := hb
    obtain ⟨f, hf⟩ : ∃ f, ls[j / 4]? = some f := ⟨ls[j / 4]'(by omega), List.getElem?_eq_getElem (by omega)⟩
    obtain ⟨c0, c1, c2, c3⟩ := hc _ f hf
    obtain ⟨d0, d1, d2, d3⟩ := lcells_at ls _ f hf
    rw [show ((⟨b, off, none⟩ : Addr).add j) = ⟨b, off + j, none⟩ by by_cases h0 : j = 0 <;> simp [Addr.add, h0]]
    rcases (show j = j / 4 * 4 ∨ j = j / 4 * 4 + 1 ∨ j = j / 4 * 4 + 2 ∨ j = j / 4 * 4 + 3 by omega) with e | e | e | e
    · rw [← e] at d0 c0
      rw [d0] at hj
      rw [c0]
      exact hj
    · rw [← e] at d1
      rw [Nat.add_assoc, ← e] at c1
      rw [d1] at hj
      rw [c1]
      exact hj
    · rw [← e] at d2
      rw [Nat.add_assoc, ← e] at c2
      rw [d2] at hj
      rw [c2]
      exact hj
    · rw [← e] at d3
      rw [Nat.add_assoc, ← e] at c3
      rw [d3] at hj
      rw [c3]
      exact hj
theorem lcells_one {ls : List Ld} : ∀ u ∈ lcells ls, u.oneCell' = true := by
  intro u hu
  simp only [lcells, List.mem_flatMap] at hu
  obtain ⟨e, _, he⟩ := hu
  simp [lcell] at he
  rcases he with rfl | rfl | rfl | rfl <;> rfl
theorem Ls.take {w : World} {B : Nat} {a : Option Addr} {n : Nat} {ls : List Ld} (h : Ls w B a n ls) {k : Nat} (hk : k ≤ n) : Ls w B a k (ls.take k) := by
  have hl := h.1
  refine ⟨by rw [List.length_take]; omega, ?_⟩
  rcases h.2 with h0 | ⟨b, off, ha, hb, hc⟩
  · exact .inl (by omega)
  · refine .inr ⟨b, off, ha, hb, fun j e he => hc j e ?_⟩
    have hj : j < k := by have := (List.getElem?_eq_some_iff.1 he).1; rw [List.length_take] at this; omega
    rw [List.getElem?_take_of_lt hj] at he
    exact he
theorem Ls.drop {w : World} {B b off n : Nat} {ls : List Ld} (h : Ls w B (some ⟨b, off, none⟩) n ls) (k : Nat) (hk : k ≤ n) : Ls w B (some ⟨b, off + k * 4, none⟩) (n - k) (ls.drop k) := by
  have hl := h.1
  refine ⟨by rw [List.length_drop]; omega, ?_⟩
  rcases h.2 with h0 | ⟨b', off', hb, hbl, hc⟩
  · exact .inl (by omega)
  · simp at hb
    obtain ⟨rfl, rfl⟩ := hb
    refine .inr ⟨b, _, rfl, hbl, fun j e he => ?_⟩
    rw [List.getElem?_drop] at he
    have := hc (k + j) e he
    rw [show off + k * 4 + j * 4 = off + (k + j) * 4 by omega]
    exact this
theorem Ls.single {w u : World} {x : Ld} (hu : u = w.alloc (.cells #[.int .i64 x.a, .int .i64 x.b, .int .i64 x.l, .bool x.t] 58)) : Ls u u.heap.size (some ⟨w.heap.size, 0, none⟩) 1 [x] := by
  subst hu
  refine ⟨rfl, .inr ⟨w.heap.size, 0, rfl, by simp, fun j e he => ?_⟩⟩
  rcases j with _ | j
  · simp at he
    subst he
    exact ⟨by simp, by simp, by simp, by simp⟩
  · simp at he
set_option maxRecDepth 100000 in
set_option maxHeartbeats 2000000 in
theorem ConcatL_any (ps : List PartL) (b k0 : Nat) (hk0 : ps.length = k0) (hsm : k0 ≤ 10) (w : World) (h : PartsL w b ps) (hlen : pLenL ps ≤ 3000000) :
    Calls Tryz.prog 46 #[.slice (some ⟨b, 0, none⟩) k0 k0] w fun e w' => ∃ a m c, e = .returned (.slice a m c) ∧ w'.ownsRow w.heap.size 58 4 (.slice a m c) m (lcells (pAllL ps)) ∧ Below w.heap.size w w' := by
  obtain ⟨i0, hi, hz0, hz1, hz2⟩ := info_parts infoIL
  have HP := hideIt h
  have HL := hideIt hlen
  have HK := hideIt hk0
  have hbw := h.1
  clear h hlen hk0
  have HG : Hid (∀ n : Nat, n ≤ 3000000 → Calls Tryz.prog 75 #[.slice none 0 0, .int .i64 (n : Int)] w fun e w' => ∃ a' c', e = .returned (.slice a' 0 c') ∧ w'.ownsRow w.heap.size 58 4 (.slice a' 0 c') 0 [] ∧ Below w.heap.size w w') := fun n hn => by
    by_cases h0 : n = 0
    · subst h0
      exact (GrowL_zero w).mono fun _ _ ⟨he, hw⟩ => ⟨_, _, he, by rw [hw]; exact World.ownsRow_nil _ _ _ _, by rw [hw]; exact Below.refl _ _⟩
    · exact GrowL_some n (by omega) (by omega) w
  go_enter Tryz.func46, Tryz.ntmps46
  go_wp2
  go_loopw [3, 11] (fun s i wr => ∃ (k q : Nat), k ≤ k0 ∧ i = .int .i64 (k : Int) ∧ s = .int .i64 (q : Int) ∧ Hid (q = pLenL (ps.take k)) ∧ q ≤ 3000000 ∧ wr = w) (fun _ i _ => k0 - (intOf i).toNat)
  case atStart => exact ⟨0, 0, by omega, rfl, rfl, by show _ = _; simp [pLenL], by omega, rfl⟩
  case round =>
    obtain ⟨k, q, hk, rfl, rfl, hq, hq1, hw⟩ := hrel
    have hw' := hw.symm
    subst hw'
    clear hw
    by_cases hlt : k < k0
    · obtain ⟨p, hp⟩ : ∃ p, ps[k]? = some p := ⟨ps[k]'(by have := HK.out; omega), List.getElem?_eq_getElem _⟩
      obtain ⟨c0, _, _⟩ := HP.out.2 k p hp
      have HQ : Hid (q + p.m = pLenL (ps.take (k + 1))) := by show _ = _; rw [take_snocF ps k p hp, pLenL_snoc, hq.out]
      have hqm : q + p.m ≤ 3000000 := by have := HQ.out; have := pLenL_take ps (k + 1); have := HL.out; omega
      have b1 : (0 : Int) ≤ (k : Int) := by omega
      have b2 : (k : Int) < (k0 : Int) := by omega
      clear hq hp
      go_wp2
      exact ⟨⟨k + 1, q + p.m, by omega, by go_num, by go_num, HQ, hqm, by first | trivial | rfl⟩, by simp [intOf]; omega⟩
    · obtain rfl : k = k0 := by omega
      have HQ : Hid (q = pLenL ps) := by show _ = _; rw [hq.out, List.take_of_length_le (by have := HK.out; omega)]
      clear hq
      have HG1 := hideIt (HG.out q hq1)
      clear HG
      go_wp2_with (go_at_call 75; refine HG1.out.mono ?_; rintro e w1 ⟨a1, c1, rfl, hown1, hb1⟩; refine Hid.out ?_)
      refine (show ∀ {p : Prop}, p → Hid p from fun h => h) ?_
      clear HG1
      have HO1 := hideIt hown1
      clear hown1
      go_wp2
      go_loopw [6, 27] (fun v i wr => ∃ (j m : Nat) (a' : Option Addr) (c' : Nat), j ≤ k ∧ i = .int .i64 (j : Int) ∧ v = .slice a' m c' ∧ Hid (m = pLenL (ps.take j)) ∧ wr.ownsRow w.heap.size 58 4 (.slice a' m c') m (lcells (pAllL (ps.take j))) ∧ Below w.heap.size w wr) (fun _ i _ => k - (intOf i).toNat)
      case atStart => exact ⟨0, 0, a1, c1, by omega, rfl, rfl, by show _ = _; simp [pLenL], by simpa [pAllL, lcells] using HO1.out, hb1⟩
      case round =>
        obtain ⟨j, m, a', c', hj, rfl, rfl, hm, hown, hb⟩ := hrel
        by_cases hlt2 : j < k
        · obtain ⟨p, hp⟩ : ∃ p, ps[j]? = some p := ⟨ps[j]'(by have := HK.out; omega), List.getElem?_eq_getElem _⟩
          obtain ⟨c0, hes, hnil⟩ := HP.out.2 j p hp
          have c1 : wr.cell? ⟨b, j, none⟩ = some (.slice p.a p.m p.c) := by rw [hb.cell hbw]; exact c0
          have HM : Hid (m + p.m = pLenL (ps.take (j + 1))) := by show _ = _; rw [take_snocF ps j p hp, pLenL_snoc, hm.out]
          have HA : Hid (lcells (pAllL (ps.take (j + 1))) = lcells (pAllL (ps.take j)) ++ lcells p.es) := by show _ = _; rw [take_snocF ps j p hp, pAllL_snoc, lcells_append]
          have hmp : m + p.m ≤ 3000000 := by have := HM.out; have := pLenL_take ps (j + 1); have := HL.out; omega
          have b1 : (0 : Int) ≤ (j : Int) := by omega
          have b2 : (j : Int) < (k : Int) := by omega
          have hesw := (hes.below hb (Nat.le_refl _)).mono hb.size
          have hl2 : (lcells p.es).length = p.m * 4 := by rw [lcells_length, hes.1]
          obtain ⟨pa, pm, pc, pes⟩ := p
          dsimp only at *
          clear hm hp c0 hes
          cases pa with
          | none =>
            obtain ⟨rfl, rfl⟩ := hnil rfl
            have HO2 : Hid (wr.ownsRow w.heap.size 58 4 (.slice a' m c') m (lcells (pAllL (ps.take (j + 1))))) := by
              have e0 : pes = [] := List.length_eq_zero_iff.1 hesw.1
              show World.ownsRow _ _ _ _ _ _ _
              rw [HA.out, e0]
              simpa [lcells] using hown
            clear hnil
            go_wp2_with (at_builtin; refine wpList_append_own_none rfl _ _ 27 rfl w.heap.size 58 i0 4 Tryz.underlying27 hi _ _ _ rfl hown rfl ?_)
            exact ⟨⟨j + 1, m, a', c', by omega, by go_num, rfl, HM, HO2.out, hb⟩, by simp [intOf]; omega⟩
          | some ad =>
            have hnews : ∀ q u, (lcells pes)[q]? = some u → wr.cell? (ad.add q) = some u := by
              rcases hesw.2 with h0 | ⟨bb, oo, hbb, _⟩
              · intro q u hq
                have e0 : pes = [] := List.length_eq_zero_iff.1 (by rw [hesw.1]; exact h0)
                rw [e0] at hq
                simp [lcells] at hq
              · simp at hbb
                subst hbb
                exact hesw.news
            clear hnil
            go_wp2_with (at_builtin; refine wpList_append_own _ rfl _ _ 27 rfl w.heap.size 58 i0 _ 4 32 Tryz.underlying27 hi hz0 hz1 hz2 rfl (by decide) _ _ _ rfl hown ad pm pc (lcells pes) rfl hl2 hnews lcells_one (by unfold maxLen; omega) (by omega) hb.size ?_)
            intro v1 w1 hown1 hg1 hn1
            have hb1 : Below w.heap.size w w1 := hb.grown hg1 hb.size (fun q hq => (hown.lt q hq).1)
            rw [← HA.out] at hown1
            obtain ⟨a2, c2, rfl⟩ := own_form hown1
            have HO2 := hideIt hown1
            clear hown1 hown hg1 hn1 hnews
            go_wp2
            exact ⟨⟨j + 1, m + pm, a2, c2, by omega, by go_num, rfl, HM, HO2.out, hb1⟩, by simp [intOf]; omega⟩
        · obtain rfl : j = k := by omega
          have e : ps.take j = ps := List.take_of_length_le (by have := HK.out; omega)
          rw [e] at hown
          have HO2 := hideIt hown
          clear hown e hm
          go_wp2
          go_ret
          exact ⟨a', m, c', rfl, HO2.out, hb⟩
end Go.Proofs.YtgjngaaibcmgmabGreat
namespace Go.Proofs.YtgjngaaibcmgmabGreat
open Go.RowKit

/-- one more edge in its place -/
def putL (ls : List Ld) (x : Ld) : List Ld := ls.filter (fun d => lt d.e x.e) ++ [x] ++ ls.filter (fun d => lt x.e d.e)
/-- the world behind the edge's box -/
def wX (w : World) (x : Ld) : World := w.alloc (.cells #[.int .i64 x.a, .int .i64 x.b, .int .i64 x.l, .bool x.t] 58)
theorem wX_size (w : World) (x : Ld) : (wX w x).heap.size = w.heap.size + 1 := by simp [wX]
structure PutL (w : World) (x : Ld) (a : Option Addr) (m c : Nat) (gs : List Ld) (u : World) : Prop where
  own : u.ownsRow (w.heap.size + 1) 58 4 (.slice a m c) m (lcells gs)
  bel : Below (w.heap.size + 1) (wX w x) u
theorem PutL.size {w : World} {x : Ld} {a : Option Addr} {m c : Nat} {gs : List Ld} {u : World} (h : PutL w x a m c gs u) : w.heap.size + 1 ≤ u.heap.size := by have := h.bel.size; rw [wX_size] at this; exact this
theorem PutL.below {w : World} {x : Ld} {a : Option Addr} {m c : Nat} {gs : List Ld} {u : World} (h : PutL w x a m c gs u) : Below w.heap.size w u :=
  ((Below.refl w.heap.size w).alloc (Nat.le_refl _) _).trans (h.bel.mono (by omega))
theorem PutL.up {w : World} {x : Ld} {a : Option Addr} {m c : Nat} {gs : List Ld} {u v : World} (h : PutL w x a m c gs u) (hb : Below u.heap.size u v) : PutL w x a m c gs v := ⟨own_up h.own hb, h.bel.trans (hb.mono h.size)⟩
theorem PutL.box {w : World} {x : Ld} {a : Option Addr} {m c : Nat} {gs : List Ld} {u : World} (h : PutL w x a m c gs u) : LdAt u w.heap.size 0 x := by
  have h0 : LdAt (wX w x) w.heap.size 0 x := ⟨by simp [wX], by simp [wX], by simp [wX], by simp [wX]⟩
  exact h0.below h.bel (by omega)
theorem PutL.app {w : World} {x : Ld} {a : Option Addr} {m c : Nat} {gs : List Ld} {u : World} (h : PutL w x a m c gs u) {y : Ld} {o : Obj} {v : Value} {u' : World}
    (ho : u'.ownsRow (w.heap.size + 1) 58 4 v (m + 1) (lcells gs ++ [.int .i64 y.a, .int .i64 y.b, .int .i64 y.l, .bool y.t])) (hg : (u.alloc o).grownBy u' (Value.slice a m c).ownBlock) :
    ∃ a' c', v = .slice a' (m + 1) c' ∧ PutL w x a' (m + 1) c' (gs ++ [y]) u' := by
  obtain ⟨a', c', rfl⟩ := own_form ho
  rw [← lcells_snoc] at ho
  refine ⟨a', c', rfl, ho, ?_⟩
  exact (h.bel.alloc h.size _).grown hg (by have := h.size; simp; omega) (fun j hj => (h.own.lt j hj).1)
theorem newsL (w : World) (y : Ld) : ∀ j u, ([Value.int .i64 y.a, Value.int .i64 y.b, Value.int .i64 y.l, Value.bool y.t] : List Value)[j]? = some u → (w.alloc (.cells #[.int .i64 y.a, .int .i64 y.b, .int .i64 y.l, .bool y.t] 58)).cell? ((⟨w.heap.size, 0, none⟩ : Addr).add j) = some u := by
  intro j u hj
  rcases j with _ | _ | _ | _ | j
  · simp at hj; subst hj; simp [Addr.add]
  · simp at hj; subst hj; simp [Addr.add]
  · simp at hj; subst hj; simp [Addr.add]
  · simp at hj; subst hj; simp [Addr.add]
  · simp at hj
theorem lt_cases (d e : EdgeV) : (d.1 < e.1 ∧ lt d e = true) ∨ (¬ d.1 < e.1 ∧ d.1 = e.1 ∧ d.2 < e.2 ∧ lt d e = true) ∨ (¬ d.1 < e.1 ∧ d.1 = e.1 ∧ ¬ d.2 < e.2 ∧ lt d e = false) ∨ (¬ d.1 < e.1 ∧ d.1 ≠ e.1 ∧ lt d e = false) := by
  have hf : ¬ (d.1 < e.1 ∨ d.1 = e.1 ∧ d.2 < e.2) → lt d e = false := fun h => by
    cases h2 : lt d e with
    | false => rfl
    | true => exact absurd ((lt_iff d e).1 h2) h
  by_cases h1 : d.1 < e.1
  · exact .inl ⟨h1, (lt_iff d e).2 (.inl h1)⟩
  · by_cases h2 : d.1 = e.1
    · by_cases h3 : d.2 < e.2
      · exact .inr (.inl ⟨h1, h2, h3, (lt_iff d e).2 (.inr ⟨h2, h3⟩)⟩)
      · exact .inr (.inr (.inl ⟨h1, h2, h3, hf (by omega)⟩))
    · exact .inr (.inr (.inr ⟨h1, h2, hf (by omega)⟩))

set_option maxRecDepth 100000 in
set_option maxHeartbeats 8000000 in
theorem l08Put_any (ls : List Ld) (x : Ld) (n : Nat) (a : Option Addr) (c : Nat) (hn : n ≤ 1048576) (w : World) (h : Ls w w.heap.size a n ls) :
    Calls Tryz.prog 41 #[.slice a n c, .agg #[.int .i64 x.a, .int .i64 x.b, .int .i64 x.l, .bool x.t]] w fun e w' => ∃ a' m' c', e = .returned (.slice a' m' c') ∧ w'.ownsRow w.heap.size 58 4 (.slice a' m' c') m' (lcells (putL ls x)) ∧ Below w.heap.size w w' := by
  obtain ⟨i0, hi, hz0, hz1, hz2⟩ := info_parts infoIL
  have HR := hideIt h
  have hlen := h.1
  clear h
  go_enter Tryz.func41, Tryz.ntmps41
  go_wp2
  go_loopw [5, 6] (fun v i wr => ∃ (k m' : Nat) (a' : Option Addr) (c' : Nat) (gs : List Ld), k ≤ n ∧ i = .int .i64 (k : Int) ∧ v = .slice a' m' c' ∧ m' ≤ k ∧ Hid (gs = (ls.take k).filter (fun d => lt d.e x.e)) ∧ PutL w x a' m' c' gs wr) (fun _ i _ => n - (intOf i).toNat)
  case atStart =>
    refine ⟨0, 0, _, _, [], by omega, rfl, rfl, by omega, by show _ = _; simp, ?_, ?_⟩
    · have h0 := World.ownsRow_lit (base := w.heap.size + 1) (e := 58) (size := 4) (wX w x) #[] 0 (by rw [wX_size]; omega) (by unfold maxLen; omega) (by simp)
      rw [wX_size] at h0
      simpa [lcells, wX] using h0
    · have h1 := (Below.refl (w.heap.size + 1) (wX w x)).alloc (by rw [wX_size]; omega) (.cells #[] 58)
      simpa [wX] using h1
  case round =>
    obtain ⟨k, m', a', c', gs, hk, rfl, rfl, hm, hgs, hst⟩ := hrel
    by_cases hlt : k < n
    · obtain ⟨b, off, f, rfl, hbl, hfk, hat⟩ := (HR.out.below hst.below (Nat.le_refl _)).at hlt
      have e0 := hat.ca
      have e1 := hat.cb
      have e2 := hat.cl
      have e3 := hat.ct
      have x0 := hst.box.ca
      have x1 := hst.box.cb
      rw [Nat.zero_add] at x1
      have b1 : (0 : Int) ≤ (k : Int) := by omega
      have b2 : (k : Int) < (n : Int) := by omega
      have HTk := hideIt (take_snocF ls k f hfk)
      have z1 := hst.size
      have HST := hideIt hst
      clear hfk hat hst
      rcases lt_cases f.e x.e with ⟨p1, hL⟩ | ⟨p1, p2, p3, hL⟩ | ⟨p1, p2, p3, hL⟩ | ⟨p1, p2, hL⟩
      · simp only [Ld.e] at p1
        have d1 : decide (f.a < x.a) = true := decide_eq_true p1
        have HG2 : Hid (gs ++ [f] = (ls.take (k + 1)).filter (fun d => lt d.e x.e)) := by
          show _ = _
          rw [HTk.out, List.filter_append, hgs.out]
          simp [hL]
        clear hL hgs
        go_wp2
        go_quiet (fail)
        go_wp2_with (at_builtin; refine wpList_append_own _ rfl _ _ 27 rfl (w.heap.size + 1) 58 i0 _ 4 32 Tryz.underlying27 hi hz0 hz1 hz2 rfl (by decide) _ _ _ rfl ((HST.out.up (below_drewN (Below.refl _ _) _)).own.alloc _) ⟨_, 0, none⟩ 1 1 [.int .i64 f.a, .int .i64 f.b, .int .i64 f.l, .bool f.t] rfl rfl (newsL _ _) (by intro u hu; simp at hu; rcases hu with rfl | rfl | rfl | rfl <;> rfl) (by unfold maxLen; omega) (by omega) (by simp; omega) ?_)
        intro v2 w2 hown2 hg2 hn2
        obtain ⟨a2, c2, rfl, hst2⟩ := (HST.out.up (below_drewN (Below.refl _ _) _)).app hown2 hg2
        have HS2 := hideIt hst2
        clear hown2 hg2 hn2 hst2
        go_wp2
        exact ⟨⟨k + 1, m' + 1, a2, c2, gs ++ [f], by omega, by go_num, rfl, by omega, HG2, HS2.out⟩, by simp [intOf]; omega⟩
      · simp only [Ld.e] at p1 p2 p3
        have d1 : decide (f.a < x.a) = false := decide_eq_false p1
        have d2 : (f.a == x.a) = true := by simpa using p2
        have d3 : decide (f.b < x.b) = true := decide_eq_true p3
        have HP := hideIt p2
        clear p2
        have HG2 : Hid (gs ++ [f] = (ls.take (k + 1)).filter (fun d => lt d.e x.e)) := by
          show _ = _
          rw [HTk.out, List.filter_append, hgs.out]
          simp [hL]
        clear hL hgs
        go_wp2
        go_quiet (fail)
        go_wp2_with (at_builtin; refine wpList_append_own _ rfl _ _ 27 rfl (w.heap.size + 1) 58 i0 _ 4 32 Tryz.underlying27 hi hz0 hz1 hz2 rfl (by decide) _ _ _ rfl ((HST.out.up (below_drewN (Below.refl _ _) _)).own.alloc _) ⟨_, 0, none⟩ 1 1 [.int .i64 f.a, .int .i64 f.b, .int .i64 f.l, .bool f.t] rfl rfl (newsL _ _) (by intro u hu; simp at hu; rcases hu with rfl | rfl | rfl | rfl <;> rfl) (by unfold maxLen; omega) (by omega) (by simp; omega) ?_)
        intro v2 w2 hown2 hg2 hn2
        obtain ⟨a2, c2, rfl, hst2⟩ := (HST.out.up (below_drewN (Below.refl _ _) _)).app hown2 hg2
        have HS2 := hideIt hst2
        clear hown2 hg2 hn2 hst2
        go_wp2
        exact ⟨⟨k + 1, m' + 1, a2, c2, gs ++ [f], by omega, by go_num, rfl, by omega, HG2, HS2.out⟩, by simp [intOf]; omega⟩
      · simp only [Ld.e] at p1 p2 p3
        have d1 : decide (f.a < x.a) = false := decide_eq_false p1
        have d2 : (f.a == x.a) = true := by simpa using p2
        have d3 : decide (f.b < x.b) = false := decide_eq_false p3
        have HP := hideIt p2
        clear p2
        have HG2 : Hid (gs = (ls.take (k + 1)).filter (fun d => lt d.e x.e)) := by
          show _ = _
          rw [HTk.out, List.filter_append, hgs.out]
          simp [hL]
        clear hL hgs
        go_wp2
        go_quiet (fail)
        go_wp2
        exact ⟨⟨k + 1, m', a', c', gs, by omega, by go_num, rfl, by omega, HG2, HST.out.up (below_drewN (Below.refl _ _) _)⟩, by simp [intOf]; omega⟩
      · simp only [Ld.e] at p1 p2
        have d1 : decide (f.a < x.a) = false := decide_eq_false p1
        have d2 : (f.a == x.a) = false := by simpa using p2
        have HG2 : Hid (gs = (ls.take (k + 1)).filter (fun d => lt d.e x.e)) := by
          show _ = _
          rw [HTk.out, List.filter_append, hgs.out]
          simp [hL]
        clear hL hgs
        go_wp2
        go_quiet (fail)
        go_wp2
        exact ⟨⟨k + 1, m', a', c', gs, by omega, by go_num, rfl, by omega, HG2, HST.out.up (below_drewN (Below.refl _ _) _)⟩, by simp [intOf]; omega⟩
    · obtain rfl : k = n := by omega
      have HG : Hid (gs ++ [x] = ls.filter (fun d => lt d.e x.e) ++ [x]) := by show _ = _; rw [hgs.out, List.take_of_length_le (by omega)]
      have x0 := hst.box.ca
      have x1 := hst.box.cb
      have x2 := hst.box.cl
      have x3 := hst.box.ct
      rw [Nat.zero_add] at x1 x2 x3
      have z1 := hst.size
      have HST := hideIt hst
      clear hgs hst
      go_wp2_with (at_builtin; refine wpList_append_own _ rfl _ _ 27 rfl (w.heap.size + 1) 58 i0 _ 4 32 Tryz.underlying27 hi hz0 hz1 hz2 rfl (by decide) _ _ _ rfl (HST.out.own.alloc _) ⟨wr.heap.size, 0, none⟩ 1 1 [.int .i64 x.a, .int .i64 x.b, .int .i64 x.l, .bool x.t] rfl rfl (newsL _ _) (by intro u hu; simp at hu; rcases hu with rfl | rfl | rfl | rfl <;> rfl) (by unfold maxLen; omega) (by omega) (by simp; omega) ?_)
      intro v2 w2 hown2 hg2 hn2
      obtain ⟨a2, c2, rfl, hst2⟩ := HST.out.app hown2 hg2
      have hmk : m' + 1 ≤ k + 1 := by omega
      generalize m' + 1 = m3 at hst2 hmk
      generalize gs ++ [x] = g0 at HG hst2
      have HST2 := hideIt hst2
      clear hown2 hg2 hn2 x0 x1 x2 x3 HST hst2
      go_wp2
      go_loopw [5, 7] (fun v i wr => ∃ (q m' : Nat) (a' : Option Addr) (c' : Nat) (gs : List Ld), q ≤ k ∧ i = .int .i64 (q : Int) ∧ v = .slice a' m' c' ∧ m' ≤ k + 1 + q ∧ Hid (gs = g0 ++ (ls.take q).filter (fun d => lt x.e d.e)) ∧ PutL w x a' m' c' gs wr) (fun _ i _ => k - (intOf i).toNat)
      case atStart => exact ⟨0, m3, a2, c2, g0, by omega, rfl, rfl, by omega, by show _ = _; simp, HST2.out⟩
      case round =>
        obtain ⟨q, m', a', c', gs, hq, rfl, rfl, hm, hgs, hst⟩ := hrel
        clear HST2
        by_cases hlt : q < k
        · obtain ⟨b, off, f, rfl, hbl, hfk, hat⟩ := (HR.out.below hst.below (Nat.le_refl _)).at (show q < k from hlt)
          have e0 := hat.ca
          have e1 := hat.cb
          have e2 := hat.cl
          have e3 := hat.ct
          have x0 := hst.box.ca
          have x1 := hst.box.cb
          rw [Nat.zero_add] at x1
          have b1 : (0 : Int) ≤ (q : Int) := by omega
          have b2 : (q : Int) < (k : Int) := by omega
          have HTk := hideIt (take_snocF ls q f hfk)
          have z1 := hst.size
          have HST := hideIt hst
          clear hfk hat hst
          rcases lt_cases x.e f.e with ⟨p1, hL⟩ | ⟨p1, p2, p3, hL⟩ | ⟨p1, p2, p3, hL⟩ | ⟨p1, p2, hL⟩
          · simp only [Ld.e] at p1
            have d1 : decide (x.a < f.a) = true := decide_eq_true p1
            have HG2 : Hid (gs ++ [f] = g0 ++ (ls.take (q + 1)).filter (fun d => lt x.e d.e)) := by
              show _ = _
              rw [HTk.out, List.filter_append, hgs.out]
              simp [hL]
            clear hL hgs
            go_wp2
            go_quiet (fail)
            go_wp2_with (at_builtin; refine wpList_append_own _ rfl _ _ 27 rfl (w.heap.size + 1) 58 i0 _ 4 32 Tryz.underlying27 hi hz0 hz1 hz2 rfl (by decide) _ _ _ rfl ((HST.out.up (below_drewN (Below.refl _ _) _)).own.alloc _) ⟨_, 0, none⟩ 1 1 [.int .i64 f.a, .int .i64 f.b, .int .i64 f.l, .bool f.t] rfl rfl (newsL _ _) (by intro u hu; simp at hu; rcases hu with rfl | rfl | rfl | rfl <;> rfl) (by unfold maxLen; omega) (by omega) (by simp; omega) ?_)
            intro v2 w2 hown2 hg2 hn2
            obtain ⟨a2, c2, rfl, hst2⟩ := (HST.out.up (below_drewN (Below.refl _ _) _)).app hown2 hg2
            have HS2 := hideIt hst2
            clear hown2 hg2 hn2 hst2
            go_wp2
            exact ⟨⟨q + 1, m' + 1, a2, c2, gs ++ [f], by omega, by go_num, rfl, by omega, HG2, HS2.out⟩, by simp [intOf]; omega⟩
          · simp only [Ld.e] at p1 p2 p3
            have d1 : decide (x.a < f.a) = false := decide_eq_false p1
            have d2 : (f.a == x.a) = true := by simpa using p2.symm
            have d3 : decide (x.b < f.b) = true := decide_eq_true p3
            have HP := hideIt p2
            clear p2
            have HG2 : Hid (gs ++ [f] = g0 ++ (ls.take (q + 1)).filter (fun d => lt x.e d.e)) := by
              show _ = _
              rw [HTk.out, List.filter_append, hgs.out]
              simp [hL]
            clear hL hgs
            go_wp2
            go_quiet (fail)
            go_wp2_with (at_builtin; refine wpList_append_own _ rfl _ _ 27 rfl (w.heap.size + 1) 58 i0 _ 4 32 Tryz.underlying27 hi hz0 hz1 hz2 rfl (by decide) _ _ _ rfl ((HST.out.up (below_drewN (Below.refl _ _) _)).own.alloc _) ⟨_, 0, none⟩ 1 1 [.int .i64 f.a, .int .i64 f.b, .int .i64 f.l, .bool f.t] rfl rfl (newsL _ _) (by intro u hu; simp at hu; rcases hu with rfl | rfl | rfl | rfl <;> rfl) (by unfold maxLen; omega) (by omega) (by simp; omega) ?_)
            intro v2 w2 hown2 hg2 hn2
            obtain ⟨a2, c2, rfl, hst2⟩ := (HST.out.up (below_drewN (Below.refl _ _) _)).app hown2 hg2
            have HS2 := hideIt hst2
            clear hown2 hg2 hn2 hst2
            go_wp2
            exact ⟨⟨q + 1, m' + 1, a2, c2, gs ++ [f], by omega, by go_num, rfl, by omega, HG2, HS2.out⟩, by simp [intOf]; omega⟩
          · simp only [Ld.e] at p1 p2 p3
            have d1 : decide (x.a < f.a) = false := decide_eq_false p1
            have d2 : (f.a == x.a) = true := by simpa using p2.symm
            have d3 : decide (x.b < f.b) = false := decide_eq_false p3
            have HP := hideIt p2
            clear p2
            have HG2 : Hid (gs = g0 ++ (ls.take (q + 1)).filter (fun d => lt x.e d.e)) := by
              show _ = _
              rw [HTk.out, List.filter_append, hgs.out]
              simp [hL]
            clear hL hgs
            go_wp2
            go_quiet (fail)
            go_wp2
            exact ⟨⟨q + 1, m', a', c', gs, by omega, by go_num, rfl, by omega, HG2, HST.out.up (below_drewN (Below.refl _ _) _)⟩, by simp [intOf]; omega⟩
          · simp only [Ld.e] at p1 p2
            have d1 : decide (x.a < f.a) = false := decide_eq_false p1
            have d2 : (f.a == x.a) = false := by simpa using fun h => p2 h.symm
            have HG2 : Hid (gs = g0 ++ (ls.take (q + 1)).filter (fun d => lt x.e d.e)) := by
              show _ = _
              rw [HTk.out, List.filter_append, hgs.out]
              simp [hL]
            clear hL hgs
            go_wp2
            go_quiet (fail)
            go_wp2
            exact ⟨⟨q + 1, m', a', c', gs, by omega, by go_num, rfl, by omega, HG2, HST.out.up (below_drewN (Below.refl _ _) _)⟩, by simp [intOf]; omega⟩
        · obtain rfl : q = k := by omega
          have HF : Hid (gs = putL ls x) := by show _ = _; unfold putL; rw [hgs.out, HG.out, List.take_of_length_le (by omega)]
          have HST := hideIt hst
          clear hgs hst
          go_wp2
          go_ret
          exact ⟨a', m', c', rfl, by rw [← HF.out]; exact own_mono HST.out.own (by omega), HST.out.below⟩
end Go.Proofs.YtgjngaaibcmgmabGreat
namespace Go.Proofs.YtgjngaaibcmgmabGreat
open Go.RowKit

/-- p parts what comes ahead of e from the rest -/
def Split (es : List EdgeV) (e : EdgeV) (p : Nat) : Prop :=
  p ≤ es.length ∧ (∀ m d, m < p → es[m]? = some d → lt d e = true) ∧ (∀ m d, p ≤ m → es[m]? = some d → lt d e = false)
/-- all but the edge -/
def outE (es : List EdgeV) (e : EdgeV) : List EdgeV := es.filter (fun d => decide (d ≠ e))
theorem mem_take_at {es : List EdgeV} {p : Nat} {d : EdgeV} (h : d ∈ es.take p) : ∃ m, m < p ∧ es[m]? = some d := by
  obtain ⟨m, hm, rfl⟩ := List.getElem_of_mem h
  have h1 : m < p := by simp at hm; omega
  exact ⟨m, h1, by rw [List.getElem_take]; exact List.getElem?_eq_getElem _⟩
theorem mem_drop_at {es : List EdgeV} {p : Nat} {d : EdgeV} (h : d ∈ es.drop p) : ∃ m, p ≤ m ∧ es[m]? = some d := by
  obtain ⟨m, hm, rfl⟩ := List.getElem_of_mem h
  exact ⟨p + m, by omega, by rw [List.getElem_drop]; exact List.getElem?_eq_getElem _⟩
theorem put_split {es : List EdgeV} {e : EdgeV} {p : Nat} (hs : Split es e p) (hn : e ∉ es) : putE es e = es.take p ++ [e] ++ es.drop p := by
  have hd : es = es.take p ++ es.drop p := (List.take_append_drop p es).symm
  unfold putE
  have a1 : (es.take p).filter (fun d => lt d e) = es.take p := List.filter_eq_self.2 fun d hm => by
    obtain ⟨m, h1, h2⟩ := mem_take_at hm
    exact hs.2.1 m d h1 h2
  have a2 : (es.drop p).filter (fun d => lt d e) = [] := List.filter_eq_nil_iff.2 fun d hm => by
    obtain ⟨m, h1, h2⟩ := mem_drop_at hm
    rw [hs.2.2 m d h1 h2]; simp
  have b1 : (es.take p).filter (fun d => lt e d) = [] := List.filter_eq_nil_iff.2 fun d hm => by
    obtain ⟨m, h1, h2⟩ := mem_take_at hm
    rw [lt_asymm' (hs.2.1 m d h1 h2)]; simp
  have b2 : (es.drop p).filter (fun d => lt e d) = es.drop p := List.filter_eq_self.2 fun d hm => by
    obtain ⟨m, h1, h2⟩ := mem_drop_at hm
    exact lt_total' (hs.2.2 m d h1 h2) fun h3 => hn (h3 ▸ List.mem_of_getElem? h2)
  have c1 : es.filter (fun d => lt d e) = es.take p := by
    rw [hd, List.filter_append, ← hd, a1, a2, List.append_nil]
  have c2 : es.filter (fun d => lt e d) = es.drop p := by
    rw [hd, List.filter_append, ← hd, b1, b2, List.nil_append]
  rw [c1, c2]
theorem out_at {es : List EdgeV} {e : EdgeV} {p : Nat} (ha : Asc es) (hp : es[p]? = some e) : outE es e = es.take p ++ es.drop (p + 1) := by
  have hl := (List.getElem?_eq_some_iff.1 hp).1
  have hd : es = es.take p ++ es.drop p := (List.take_append_drop p es).symm
  have h1 : es.drop p = e :: es.drop (p + 1) := by
    rw [List.drop_eq_getElem_cons hl, (List.getElem?_eq_some_iff.1 hp).2]
  unfold outE
  have a1 : (es.take p).filter (fun d => decide (d ≠ e)) = es.take p := List.filter_eq_self.2 fun d hm => by
    obtain ⟨m, h2, h3⟩ := mem_take_at hm
    have h4 := ha m p d e h2 h3 hp
    exact decide_eq_true fun h5 => by rw [h5, lt_irrefl'] at h4; cases h4
  have a2 : (es.drop (p + 1)).filter (fun d => decide (d ≠ e)) = es.drop (p + 1) := List.filter_eq_self.2 fun d hm => by
    obtain ⟨m, h2, h3⟩ := mem_drop_at hm
    have h4 := ha p m e d (by omega) hp h3
    exact decide_eq_true fun h5 => by rw [h5, lt_irrefl'] at h4; cases h4
  have c1 : es.filter (fun d => decide (d ≠ e)) = es.take p ++ es.drop (p + 1) := by
    rw [hd, List.filter_append, ← hd, a1, h1, List.filter_cons_of_neg (by simp), a2]
  exact c1
/-- AddEdge -/
def addE (N : Int) (es : List EdgeV) (e : EdgeV) : Option (List EdgeV) := if gB N es = true ∧ eB N e = true ∧ hasB es e = false then some (putE es e) else none
/-- TakeEdge -/
def takE (N : Int) (es : List EdgeV) (e : EdgeV) : Option (List EdgeV) := if gB N es = true ∧ hasB es e = true then some (outE es e) else none
theorem putE_length (es : List EdgeV) (e : EdgeV) : (putE es e).length ≤ 2 * es.length + 1 := by
  unfold putE
  have h1 := List.length_filter_le (fun d => lt d e) es
  have h2 := List.length_filter_le (fun d => lt e d) es
  simp only [List.length_append, List.length_cons, List.length_nil]
  omega
theorem outE_length (es : List EdgeV) (e : EdgeV) : (outE es e).length ≤ es.length := List.length_filter_le _ _
end Go.Proofs.YtgjngaaibcmgmabGreat
