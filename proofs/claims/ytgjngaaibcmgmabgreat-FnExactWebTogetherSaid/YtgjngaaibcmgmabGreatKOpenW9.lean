/- What a right web's ground tells: labels, together, height: pure. The program's groundOf, WebLabels, WebTogether. The specification's WebLabels and WebTogether. The specification's WebTogether. The walk of FnExactWebTogether. A web that comes in. -/
import Derived.Test.YtgjngaaibcmgmabGreatKWb9
import Derived.Test.YtgjngaaibcmgmabGreatKSWo9
import Derived.Test.YtgjngaaibcmgmabGreatKBx7
import Derived.WalkKit
import Derived.ProofKit
import Derived.OpenShut
import Derived.ChangeOld
import Derived.ChangeArms
import Derived.Below
import Derived.ChangeSlices
namespace Go.Proofs.YtgjngaaibcmgmabGreat
open Go.RowKit

/-- the least vertex of each vertex's tour -/
def labW (ts : List (List Int)) (nn : Nat) : List Int := (List.range nn).map fun v : Nat => mnV ((ts[(trI ts (v : Int)).toNat]?).getD [])
theorem labW_len (ts : List (List Int)) (nn : Nat) : (labW ts nn).length = nn := by simp [labW]
theorem labW_at {es : List EdgeV} {nn : Nat} {ts : List (List Int)} (h : FtAll es nn ts) {v : Nat} (hv : v < nn) {t : List Int} (ht : t ∈ ts) (hvt : (v : Int) ∈ t) : (labW ts nn)[v]? = some (mnV t) := by
  obtain ⟨k, hk⟩ := List.mem_iff_getElem?.1 ht
  have e := trI_of h.fp.q hk hvt
  simp [labW, hv, e, hk]
/-- a list that tells each tour's first number for each of its vertices is that of the labels -/
theorem labW_of {es : List EdgeV} {nn : Nat} {ts : List (List Int)} (h : FtAll es nn ts) {L : List Int} (hl : L.length = nn) (hL : ∀ t ∈ ts, ∀ v : Nat, (v : Int) ∈ t → L[v]? = t[0]?) : L = labW ts nn := by
  apply List.ext_getElem?
  intro v
  by_cases hv : v < nn
  · obtain ⟨t, ht, hvt⟩ := h.cov (v : Int) (by omega) (by omega)
    rw [hL t ht v hvt, labW_at h hv ht hvt, ← List.head?_eq_getElem?]
    exact h.mn t ht
  · rw [List.getElem?_eq_none (by omega), List.getElem?_eq_none (by rw [labW_len]; omega)]
/-- the ground's trees -/
def gndT (N : Int) (ls : List Ld) : List (List Int) := (ftK (fE ls 0) N.toNat N.toNat).getD []
noncomputable def lbO (N : Int) (ls : List Ld) : List Int := @ite _ (WOk N ls) (Classical.propDecidable _) (labW (gndT N ls) N.toNat) []
theorem lbO_yes {nn : Nat} {ls : List Ld} (h : WOk (nn : Int) ls) {ts : List (List Int)} (hts : ftK (fE ls 0) nn nn = some ts) : lbO (nn : Int) ls = labW ts nn := by
  unfold lbO gndT; rw [if_pos h, Int.toNat_natCast, hts]; rfl
theorem lbO_no {N : Int} {ls : List Ld} (h : ¬ WOk N ls) : lbO N ls = [] := by unfold lbO; rw [if_neg h]
theorem lbO_len (N : Int) (ls : List Ld) : (lbO N ls).length ≤ 12 := by
  by_cases h : WOk N ls
  · obtain ⟨nn, rfl, _, h12⟩ := gB_n h.1
    unfold lbO
    rw [if_pos h, labW_len, Int.toNat_natCast]
    exact h12
  · rw [lbO_no h]; simp
/-- both are in one tree -/
noncomputable def tgB (N : Int) (ls : List Ld) (x y : Int) : Bool := @decide (WOk N ls ∧ (0 ≤ x ∧ x < N) ∧ (0 ≤ y ∧ y < N) ∧ trI (gndT N ls) x = trI (gndT N ls) y) (Classical.propDecidable _)
theorem tgB_iff {N : Int} {ls : List Ld} {x y : Int} : tgB N ls x y = true ↔ (WOk N ls ∧ (0 ≤ x ∧ x < N) ∧ (0 ≤ y ∧ y < N) ∧ trI (gndT N ls) x = trI (gndT N ls) y) := by
  unfold tgB; exact @decide_eq_true_iff _ (Classical.propDecidable _)
theorem tgB_is {N : Int} {ls : List Ld} {x y : Int} {b : Bool} (h : b = true ↔ (WOk N ls ∧ (0 ≤ x ∧ x < N) ∧ (0 ≤ y ∧ y < N) ∧ trI (gndT N ls) x = trI (gndT N ls) y)) : b = tgB N ls x y := by
  rw [Bool.eq_iff_iff, h, tgB_iff]
theorem gndT_is {nn : Nat} {ls : List Ld} {ts : List (List Int)} (hts : ftK (fE ls 0) nn nn = some ts) : gndT (nn : Int) ls = ts := by unfold gndT; rw [Int.toNat_natCast, hts]; rfl
/-- a right web's trees -/
theorem WOk.trees {nn : Nat} {ls : List Ld} (h : WOk (nn : Int) ls) (i : Nat) (hi : i < 5) : ∃ ts, ftK (fE ls (i : Int)) nn nn = some ts ∧ FtAll (fE ls (i : Int)) nn ts := by
  obtain ⟨ts, h1, _⟩ := h.2.2 i hi
  rw [Int.toNat_natCast] at h1
  have hg := (gB_chk h.1).1
  exact ⟨ts, h1, ft_all (fE_ends h.1 _) (by omega) (by omega) h1⟩
/-- the greatest level -/
def htK : List Ld → Int → Int
  | [], m => m
  | x :: r, m => htK r (if m < x.l then x.l else m)
noncomputable def htO (N : Int) (ls : List Ld) : Int := @ite _ (WOk N ls) (Classical.propDecidable _) (htK ls (-1)) (-1)
theorem htO_yes {N : Int} {ls : List Ld} (h : WOk N ls) : htO N ls = htK ls (-1) := by unfold htO; rw [if_pos h]
theorem htO_no {N : Int} {ls : List Ld} (h : ¬ WOk N ls) : htO N ls = -1 := by unfold htO; rw [if_neg h]
theorem htK_drop {ls : List Ld} {k : Nat} {x : Ld} (h : ls[k]? = some x) (m : Int) : htK (ls.drop k) m = htK (ls.drop (k + 1)) (if m < x.l then x.l else m) := by
  obtain ⟨hk, e⟩ := List.getElem?_eq_some_iff.1 h
  rw [List.drop_eq_getElem_cons hk, htK, e]
end Go.Proofs.YtgjngaaibcmgmabGreat
namespace Go.Proofs.YtgjngaaibcmgmabGreat
open Go.RowKit

theorem ft_lnS {es : List EdgeV} {nn : Nat} {ts : List (List Int)} (h : FtAll es nn ts) : ts.length + lnS ts ≤ 1048576 := by
  have h1 : ts.length ≤ 12 := h.fp.2.2.1
  have h2 : ∀ l : List (List Int), (∀ t ∈ l, t.length ≤ 23) → lnS l ≤ 23 * l.length := fun l => by
    induction l with
    | nil => intro _; simp [lnS]
    | cons t l ih =>
      intro hl
      have a := hl t (by simp)
      have b := ih fun s hs => hl s (by simp [hs])
      simp only [lnS, List.map_cons, List.sum_cons, List.length_cons] at b ⊢
      omega
  have := h2 ts fun t ht => (tB_len (h.fp.q.1 t ht).1).2
  omega
theorem ft_rng {es : List EdgeV} {nn : Nat} {ts : List (List Int)} (h : FtAll es nn ts) : ∀ t ∈ ts, 0 < t.length ∧ t.length ≤ 23 ∧ ∀ x ∈ t, 0 ≤ x ∧ x < (nn : Int) := fun t ht => by
  have h1 := h.fp.q.1 t ht
  have h2 := tB_len h1.1
  refine ⟨by omega, h2.2, fun x hx => ⟨?_, h1.2 x hx⟩⟩
  have := ((tB_iff t).1 h1.1).1 x hx
  unfold vB at this
  have := of_decide_eq_true this
  omega
set_option maxRecDepth 100000 in
set_option maxHeartbeats 4000000 in
theorem groundOf_yes (nn : Nat) (ls : List Ld) (n : Nat) (a : Option Addr) (c : Nat) (hn : n ≤ 1048576) (hW : WOk (nn : Int) ls) (ts : List (List Int)) (hts : ftK (fE ls 0) nn nn = some ts) (w : World) (h : Ls w w.heap.size a n ls) :
    Calls Tryz.prog 43 #[.agg #[.int .i64 (nn : Int), .slice a n c]] w fun e w' => ∃ a' m c', e = .returned (.agg #[.int .i64 (nn : Int), .slice a' m c']) ∧ Ts w' w'.heap.size a' m ts ∧ Below w.heap.size w w' := by
  have HO := iWebOk_any (nn : Int) ls n a c hn _ (h.up (wf2_good w (nn : Int) a n c))
  rw [wB_yes hW] at HO
  have HO := hideIt HO
  have HF : Hid (∀ u, Good (wf2 w (nn : Int) a n c) u → Calls Tryz.prog 62 #[.agg #[.int .i64 (nn : Int), .slice a n c], .int .i64 0] u (FAn9 u (nn : Int) (some ts))) := fun u hu => iForestAt_yes nn ls 0 n a c hW.1 (fun x hx => (hW.2.1 x hx).1) hW.bridge (by omega) ts hts u ((h.up (wf2_good w (nn : Int) a n c)).up hu)
  clear h hW hts
  go_enter Tryz.func43, Tryz.ntmps43
  go_wp2_with (go_at_call 11; refine HO.out.mono ?_; rintro e w1 ⟨rfl, hb1⟩; refine Hid.out ?_)
  refine (show ∀ {p : Prop}, p → Hid p from fun h => h) ?_
  have G1 : Good (wf2 w (nn : Int) a n c) w1 := hb1
  rw [wf2_size] at hb1
  obtain ⟨⟨cw0, cw1⟩, _⟩ := wf2_cells hb1
  have z1 := hb1.size
  rw [wf2_size] at z1
  have HF1 := hideIt (HF.out w1 G1)
  clear HO hb1 HF
  go_wp2_with (go_at_call 62; refine HF1.out.mono ?_; rintro e w2 ⟨a2, m2, c2, R2, rfl, hF2, hR2, hb2⟩; refine Hid.out ?_)
  refine (show ∀ {p : Prop}, p → Hid p from fun h => h) ?_
  simp only [Option.getD_some] at hR2
  have G2 := G1.up hb2
  have G2b : Below (w.heap.size + 2) (wf2 w (nn : Int) a n c) w2 := by have := G2; unfold Good at this; rwa [wf2_size] at this
  obtain ⟨_, bx⟩ := wf2_cells G2b
  have r0 := bx.cell0
  have r1 := bx.cell1
  have q0 := bx.frozen 0
  have q1 := bx.frozen 1
  have hlt := bx.lt
  have HG : Hid (Good w w2) := (wf2_good w (nn : Int) a n c).up G2
  have HTf : Hid (∀ v0 v1 o, Ts (((w2.setCell ⟨w.heap.size + 1, 0, none⟩ v0).setCell ⟨w.heap.size + 1, 1, none⟩ v1).alloc o) (((w2.setCell ⟨w.heap.size + 1, 0, none⟩ v0).setCell ⟨w.heap.size + 1, 1, none⟩ v1).alloc o).heap.size a2 m2 ts) := fun v0 v1 o => by
    have h1 := (hF2.setLow (x := w.heap.size + 1) (by omega) 0 v0).setLow (x := w.heap.size + 1) (by omega) 1 v1
    have h2 := h1.ts.up ((Below.refl _ _).alloc (Nat.le_refl _) o)
    rw [hR2] at h2
    exact h2
  have s2 := (bx.set2 (.int .i64 (nn : Int)) (.slice a2 m2 c2)).alloc (.cells #[.int .i64 (nn : Int), .slice a2 m2 c2] 61)
  have s0 := s2.cell0
  have s1 := s2.cell1
  clear hF2 hR2 G1 G2 G2b bx HF1 cw0 cw1 hb2 s2
  go_wp2
  refine bodyPost_ret (v := .agg #[.int .i64 (nn : Int), .slice a2 m2 c2]) (by simp [results, Tryz.results43, go_sem, s0, s1]) rfl ⟨a2, m2, c2, rfl, HTf.out _ _ _, ?_⟩
  exact (((HG.out.setCell (p := ⟨w.heap.size + 1, 0, none⟩) (by show _ ≤ w.heap.size + 1; omega) _).setCell (p := ⟨w.heap.size + 1, 1, none⟩) (by show _ ≤ w.heap.size + 1; omega) _)).alloc (by simp [World.setCell]; omega) _
set_option maxRecDepth 100000 in
set_option maxHeartbeats 4000000 in
theorem groundOf_no (N : Int) (ls : List Ld) (n : Nat) (a : Option Addr) (c : Nat) (hn : n ≤ 1048576) (hW : ¬ WOk N ls) (w : World) (h : Ls w w.heap.size a n ls) :
    Calls Tryz.prog 43 #[.agg #[.int .i64 N, .slice a n c]] w fun e w' => e = .returned (.agg #[.int .i64 0, .slice none 0 0]) ∧ Below w.heap.size w w' := by
  have HO := iWebOk_any N ls n a c hn _ (h.up (wf2_good w N a n c))
  rw [wB_no hW] at HO
  have HO := hideIt HO
  clear h hW
  go_enter Tryz.func43, Tryz.ntmps43
  go_wp2_with (go_at_call 11; refine HO.out.mono ?_; rintro e w1 ⟨rfl, hb1⟩; refine Hid.out ?_)
  refine (show ∀ {p : Prop}, p → Hid p from fun h => h) ?_
  have HG : Hid (Good w w1) := (wf2_good w N a n c).up hb1
  rw [wf2_size] at hb1
  obtain ⟨_, bx⟩ := wf2_cells hb1
  have r0 := bx.cell0
  have r1 := bx.cell1
  have q0 := bx.frozen 0
  have q1 := bx.frozen 1
  have s2 := bx.set2 (.int .i64 0) (.slice none 0 0)
  have s0 := s2.cell0
  have s1 := s2.cell1
  clear HO hb1 s2 bx
  go_wp2
  refine bodyPost_ret (v := .agg #[.int .i64 0, .slice none 0 0]) (by simp [results, Tryz.results43, go_sem, s0, s1]) rfl ⟨rfl, ?_⟩
  exact (HG.out.setCell (p := ⟨w.heap.size + 1, 0, none⟩) (by show _ ≤ w.heap.size + 1; omega) _).setCell (p := ⟨w.heap.size + 1, 1, none⟩) (by show _ ≤ w.heap.size + 1; omega) _
set_option maxRecDepth 100000 in
set_option maxHeartbeats 4000000 in
theorem iWebLabels_any (N : Int) (ls : List Ld) (n : Nat) (a : Option Addr) (c : Nat) (hn : n ≤ 1048576) (w : World) (h : Ls w w.heap.size a n ls) :
    Calls Tryz.prog 24 #[.agg #[.int .i64 N, .slice a n c]] w (IAns w (lbO N ls)) := by
  have hfa : Good w (wW w N a n c) := wW_good w N a n c
  by_cases hW : WOk N ls
  · obtain ⟨nn, rfl, hn1, hn12⟩ := gB_n hW.1
    obtain ⟨ts, hts, hall⟩ := hW.trees 0 (by omega)
    have hts : ftK (fE ls 0) nn nn = some ts := hts
    have HG := hideIt (groundOf_yes nn ls n a c hn hW ts hts _ (h.up hfa))
    have HR : Hid (∀ (a' : Option Addr) (m c' : Nat) (u : World), Ts u u.heap.size a' m ts → Calls Tryz.prog 52 #[.agg #[.int .i64 (nn : Int), .slice a' m c']] u fun e w' => ∃ g, e = .returned (.slice (some ⟨g, 0, none⟩) nn nn) ∧ w'.ownsRow u.heap.size 3 1 (.slice (some ⟨g, 0, none⟩) nn nn) nn (ic (labW ts nn)) ∧ Below u.heap.size u w') := fun a' m c' u hu => by
      refine (rootsOf_any nn ts m a' c' hn12 (by have := hu.1; have := hall.fp.2.2.1; omega) (ft_rng hall) hall.fp.q.2.1 u hu).mono fun e v ⟨g, L, h1, h2, h3, h4⟩ => ⟨g, h1, ?_, h4⟩
      rw [← labW_of hall (by have := h2.1; rw [ic_len] at this; omega) h3]
      exact h2
    have HL := hideIt (lbO_yes hW hts)
    clear h hW hts hall
    go_enter Tryz.func24, Tryz.ntmps24
    go_wp2_with (first | (go_at_call 43; refine HG.out.mono ?_; rintro e w1 ⟨a1, m1, c1, rfl, hT1, hb1⟩; have HR1 := HR.out a1 m1 c1 w1 hT1; clear hT1) | (go_at_call 52; refine HR1.mono ?_; rintro e w2 ⟨g2, rfl, ho2, hb2⟩))
    go_ret
    exact ⟨_, _, _, rfl, by rw [HL.out]; exact own_mono ho2 (by have := (hfa.up hb1).size; omega), (hfa.up hb1).up hb2⟩
  · have HG := hideIt (groundOf_no N ls n a c hn hW _ (h.up hfa))
    have HR : Hid (∀ (u : World), Calls Tryz.prog 52 #[.agg #[.int .i64 0, .slice none 0 0]] u fun e w' => ∃ g, e = .returned (.slice (some ⟨g, 0, none⟩) 0 0) ∧ w'.ownsRow u.heap.size 3 1 (.slice (some ⟨g, 0, none⟩) 0 0) 0 (ic []) ∧ Below u.heap.size u w') := fun u => by
      refine (rootsOf_any 0 [] 0 none 0 (by omega) (by omega) (by simp) List.Pairwise.nil u ⟨rfl, .inl rfl⟩).mono fun e v ⟨g, L, h1, h2, h3, h4⟩ => ⟨g, h1, ?_, h4⟩
      have : L = [] := by have := h2.1; rw [ic_len] at this; exact List.length_eq_zero_iff.1 (by omega)
      rw [← this]
      exact h2
    have HL := hideIt (lbO_no hW)
    clear h hW
    go_enter Tryz.func24, Tryz.ntmps24
    go_wp2_with (first | (go_at_call 43; refine HG.out.mono ?_; rintro e w1 ⟨rfl, hb1⟩) | (go_at_call 52; refine (HR.out _).mono ?_; rintro e w2 ⟨g2, rfl, ho2, hb2⟩))
    go_ret
    exact ⟨_, _, _, rfl, by rw [HL.out]; exact own_mono ho2 (by have := (hfa.up hb1).size; omega), (hfa.up hb1).up hb2⟩
set_option maxRecDepth 100000 in
set_option maxHeartbeats 4000000 in
theorem iWebTogether_any (N : Int) (ls : List Ld) (x y : Int) (n : Nat) (a : Option Addr) (c : Nat) (hn : n ≤ 1048576) (w : World) (h : Ls w w.heap.size a n ls) :
    Calls Tryz.prog 22 #[.agg #[.int .i64 N, .slice a n c], .int .i64 x, .int .i64 y] w fun e w' => e = .returned (.bool (tgB N ls x y)) ∧ Below w.heap.size w w' := by
  have hfa : Good w (wW w N a n c) := wW_good w N a n c
  by_cases hW : WOk N ls
  · obtain ⟨nn, rfl, hn1, hn12⟩ := gB_n hW.1
    obtain ⟨ts, hts, hall⟩ := hW.trees 0 (by omega)
    have hts : ftK (fE ls 0) nn nn = some ts := hts
    have HG := hideIt (groundOf_yes nn ls n a c hn hW ts hts _ (h.up hfa))
    have HR : Hid (∀ (v : Int) (a' : Option Addr) (m c' : Nat) (u : World), Ts u u.heap.size a' m ts → Calls Tryz.prog 45 #[.agg #[.int .i64 (nn : Int), .slice a' m c'], .int .i64 v] u fun e w' => e = .returned (.int .i64 (trI ts v)) ∧ Below u.heap.size u w') := fun v a' m c' u hu => by
      have := iTreeOf_any (nn : Int) ts v m a' c' (by have := hu.1; have := ft_lnS hall; omega) u hu
      rw [treeO_yes hall.fp] at this
      exact this
    have hvert : ∀ v : Int, 0 ≤ trI ts v ↔ 0 ≤ v ∧ v < (nn : Int) := fun v => by
      rw [← ft_in]
      constructor
      · intro hv
        obtain ⟨t, ht, hvt⟩ := List.mem_flatten.1 hv
        exact (ft_rng hall t ht).2.2 v hvt
      · rintro ⟨h0, h1⟩
        obtain ⟨t, ht, hvt⟩ := hall.cov v h0 h1
        exact List.mem_flatten.2 ⟨t, ht, hvt⟩
    have HB : Hid (∀ b : Bool, (b = true ↔ 0 ≤ trI ts x ∧ trI ts x = trI ts y) → b = tgB (nn : Int) ls x y) := fun b hb => tgB_is (by
      rw [hb, gndT_is hts]
      constructor
      · rintro ⟨h1, h2⟩
        exact ⟨hW, (hvert x).1 h1, (hvert y).1 (by omega), h2⟩
      · rintro ⟨_, h1, _, h2⟩
        exact ⟨(hvert x).2 h1, h2⟩)
    have hm1 : ∀ v, -1 ≤ trI ts v := fun v => by
      rcases trI_cases ts v with ⟨k, t, _, _, e⟩ | ⟨_, e⟩ <;> omega
    obtain ⟨p, hp⟩ : ∃ p, trI ts x = p := ⟨_, rfl⟩
    obtain ⟨q, hq⟩ : ∃ q, trI ts y = q := ⟨_, rfl⟩
    have HRx : Hid (∀ (a' : Option Addr) (m c' : Nat) (u : World), Ts u u.heap.size a' m ts → Calls Tryz.prog 45 #[.agg #[.int .i64 (nn : Int), .slice a' m c'], .int .i64 x] u fun e w' => e = .returned (.int .i64 p) ∧ Below u.heap.size u w') := by rw [← hp]; exact HR.out x
    have HRy : Hid (∀ (a' : Option Addr) (m c' : Nat) (u : World), Ts u u.heap.size a' m ts → Calls Tryz.prog 45 #[.agg #[.int .i64 (nn : Int), .slice a' m c'], .int .i64 y] u fun e w' => e = .returned (.int .i64 q) ∧ Below u.heap.size u w') := by rw [← hq]; exact HR.out y
    rw [hp, hq] at HB
    clear h hW hts hall hvert hm1 HR hp hq
    go_enter Tryz.func22, Tryz.ntmps22
    go_wp2_with (go_at_call 43; refine HG.out.mono ?_; rintro e w1 ⟨a1, m1, c1, rfl, hT1, hb1⟩; refine Hid.out ?_)
    refine (show ∀ {p : Prop}, p → Hid p from fun h => h) ?_
    have hba : Below w1.heap.size w1 (w1.alloc (.cells #[.int .i64 (nn : Int), .slice a1 m1 c1] 61)) := (Below.refl _ _).alloc (Nat.le_refl _) _
    have HX := hideIt (HRx.out a1 m1 c1 _ (hT1.up hba))
    have HT1 := hideIt (hT1.up hba)
    have HG1 := hideIt ((hfa.up hb1).up hba)
    clear hT1 hb1 hba HRx HG
    go_wp2_with (go_at_call 45; refine HX.out.mono ?_; rintro e w2 ⟨rfl, hb2⟩; refine Hid.out ?_)
    refine (show ∀ {p : Prop}, p → Hid p from fun h => h) ?_
    have c0 : w2.cell? ⟨w1.heap.size, 0, none⟩ = some (.int .i64 (nn : Int)) := by rw [hb2.cell (by simp)]; simp
    have c1' : w2.cell? ⟨w1.heap.size, 1, none⟩ = some (.slice a1 m1 c1) := by rw [hb2.cell (by simp)]; simp
    have HY := hideIt (HRy.out a1 m1 c1 w2 (HT1.out.up hb2))
    have HG2 := hideIt (HG1.out.up hb2)
    clear HX HT1 HG1 HRy hb2
    by_cases h0 : 0 ≤ p
    · have d0 : decide (0 ≤ p) = true := decide_eq_true h0
      by_cases hpq : p = q
      · have HBt := hideIt (HB.out true ⟨fun _ => ⟨h0, hpq⟩, fun _ => rfl⟩)
        have d1 : (p == q) = true := by simpa using hpq
        have HPQ := hideIt hpq
        clear HB hpq
        go_wp2_with (go_at_call 45; refine HY.out.mono ?_; rintro e w3 ⟨rfl, hb3⟩)
        go_ret
        exact ⟨by rw [← HBt.out]; rfl, HG2.out.up hb3⟩
      · have HBt := hideIt (HB.out false ⟨fun h => (by cases h), fun h => absurd h.2 hpq⟩)
        have d1 : (p == q) = false := by simpa using hpq
        clear HB hpq
        go_wp2_with (go_at_call 45; refine HY.out.mono ?_; rintro e w3 ⟨rfl, hb3⟩)
        go_ret
        exact ⟨by rw [← HBt.out]; rfl, HG2.out.up hb3⟩
    · have d0 : decide (0 ≤ p) = false := decide_eq_false h0
      have HBt := hideIt (HB.out false ⟨fun h => (by cases h), fun h => absurd h.1 h0⟩)
      clear HB
      go_wp2
      go_ret
      exact ⟨by rw [← HBt.out]; rfl, HG2.out⟩
  · have HG := hideIt (groundOf_no N ls n a c hn hW _ (h.up hfa))
    have HR : Hid (∀ (u : World), Calls Tryz.prog 45 #[.agg #[.int .i64 0, .slice none 0 0], .int .i64 x] u fun e w' => e = .returned (.int .i64 (-1)) ∧ Below u.heap.size u w') := fun u => by
      have := iTreeOf_any 0 [] x 0 none 0 (by simp [lnS]) u ⟨rfl, .inl rfl⟩
      rw [treeO_no (fun h => by have := h.1; omega)] at this
      exact this
    have HBt := hideIt (tgB_is (N := N) (ls := ls) (x := x) (y := y) (b := false) ⟨fun h => (by cases h), fun h => absurd h.1 hW⟩)
    clear h hW
    go_enter Tryz.func22, Tryz.ntmps22
    go_wp2_with (first | (go_at_call 43; refine HG.out.mono ?_; rintro e w1 ⟨rfl, hb1⟩) | (go_at_call 45; refine (HR.out _).mono ?_; rintro e w2 ⟨rfl, hb2⟩))
    go_ret
    exact ⟨by rw [← HBt.out]; rfl, ((hfa.up hb1).alloc _).up hb2⟩
end Go.Proofs.YtgjngaaibcmgmabGreat
namespace Go.Proofs.YtgjngaaibcmgmabGreat
open Go.RowKit

/-- labels in the making beside a forest: nothing else has turned -/
structure LbSt (w : World) (N : Int) (a : Option Addr) (n c : Nat) (lo X : Nat) (a2 : Option Addr) (m2 c2 : Nat) (R : List Rw) (g m co : Nat) (L : List Int) (u : World) : Prop where
  own : u.ownsRow (w.heap.size + 1) 3 1 (.slice (some ⟨g, 0, none⟩) m co) m (ic L)
  box : Box7 u X 61 (.int .i64 N) (.slice a2 m2 c2)
  fb : FB u lo u.heap.size a2 m2 c2 R
  apart : ∀ x ∈ R, g ≠ x.g
  bel : Below (w.heap.size + 1) (wW w N a n c) u
theorem LbSt.size {w : World} {N : Int} {a : Option Addr} {n c lo X : Nat} {a2 : Option Addr} {m2 c2 : Nat} {R : List Rw} {g m co : Nat} {L : List Int} {u : World} (h : LbSt w N a n c lo X a2 m2 c2 R g m co L u) : w.heap.size + 1 ≤ u.heap.size := by have := h.bel.size; rw [wW_size] at this; exact this
theorem LbSt.up {w : World} {N : Int} {a : Option Addr} {n c lo X : Nat} {a2 : Option Addr} {m2 c2 : Nat} {R : List Rw} {g m co : Nat} {L : List Int} {u v : World} (h : LbSt w N a n c lo X a2 m2 c2 R g m co L u) (hb : Below u.heap.size u v) : LbSt w N a n c lo X a2 m2 c2 R g m co L v :=
  ⟨own_up h.own hb, h.box.up hb, h.fb.keep hb, h.apart, h.bel.trans (hb.mono h.size)⟩
theorem LbSt.app {w : World} {N : Int} {a : Option Addr} {n c lo X : Nat} {a2 : Option Addr} {m2 c2 : Nat} {R : List Rw} {g m co : Nat} {L : List Int} {u u' : World} (h : LbSt w N a n c lo X a2 m2 c2 R g m co L u) {G cap : Nat} {y : Int}
    (ho : u'.ownsRow (w.heap.size + 1) 3 1 (.slice (some ⟨G, 0, none⟩) (m + 1) cap) (m + 1) (ic L ++ [.int .i64 y])) (hg : u.grownBy u' (some g)) (hG : g = G ∨ G = u.heap.size) : LbSt w N a n c lo X a2 m2 c2 R G (m + 1) cap (L ++ [y]) u' := by
  rw [← ic_snoc] at ho
  have hne : X ≠ g := fun e => by
    have hb : u.heap[X]? = some (.cells #[.int .i64 N, .slice a2 m2 c2] 61 (0, 0)) := h.box
    obtain ⟨cur, h2⟩ := own_blk h.own
    rw [e, h2] at hb
    simp at hb
  refine ⟨ho, h.box.grown hg (by simpa using hne), h.fb.other h.own (by decide) (fun r hr e => h.apart r hr (by simpa [Value.ownBlock] using e)) hg, fun x hx e => ?_, ?_⟩
  · rcases hG with h1 | h1
    · exact h.apart x hx (by omega)
    · have := (h.fb.ins x hx).2.2; omega
  · exact h.bel.grown hg h.size (fun j hj => by cases hj; exact (h.own.lt g rfl).1)
/-- the first of a right tour's vertices -/
theorem vertsFirst9 {w2 : World} {q : List Int} (hB : tB q = true) (y : Option Addr) (cy : Nat) (hfq : q.length ≤ 3000000) (u : World) (hu : Good w2 u) (h : Is u u.heap.size y q.length q) :
    Calls Tryz.prog 33 #[.slice y q.length cy] u fun e v => ∃ g3 m3 c3, e = .returned (.slice (some ⟨g3, 0, none⟩) m3 c3) ∧ 0 < m3 ∧ v.cell? ⟨g3, 0, none⟩ = some (.int .i64 (mnV q)) ∧ g3 < v.heap.size ∧ Good w2 v :=
  (sVertsOf_any q q.length y cy hfq u h).mono fun e v ⟨a3, m3, c3, he, ho, hb⟩ => by
    have hm : (vsL q).length = m3 := by have := ho.1; rw [ic_len] at this; omega
    have hp : 0 < m3 := by have := vs_pos hB; omega
    obtain ⟨g, c3', hf, _⟩ := ho.form hp
    simp at hf
    obtain ⟨rfl, rfl⟩ := hf
    exact ⟨g, m3, c3, he, hp, by rw [ho.cellAt 0 (by omega)]; exact ic_at (vs_first hB), (ho.lt g rfl).2, hu.up hb⟩

set_option maxRecDepth 100000 in
set_option maxHeartbeats 4000000 in
theorem sWebLabels_any (N : Int) (ls : List Ld) (n : Nat) (a : Option Addr) (c : Nat) (hn : n ≤ 1048576) (w : World) (h : Ls w w.heap.size a n ls) :
    Calls Tryz.prog 23 #[.agg #[.int .i64 N, .slice a n c]] w (IAns w (lbO N ls)) := by
  obtain ⟨i0, hi, hz0, hz1, hz2⟩ := info_parts info3i
  have hfa : Good w (wW w N a n c) := wW_good w N a n c
  have hf2 : Good (wW w N a n c) ((wW w N a n c).alloc (.cells #[] 3)) := (Good.refl _).alloc _
  have HO := sWebOk_any N ls n a c hn _ ((h.up hfa).up hf2)
  by_cases hW : WOk N ls
  · obtain ⟨nn, rfl, hn1, hn12⟩ := gB_n hW.1
    obtain ⟨ts, hts, hall⟩ := hW.trees 0 (by omega)
    have hts : ftK (fE ls 0) nn nn = some ts := hts
    rw [wB_yes hW] at HO
    have HO := hideIt HO
    have HF : Hid (∀ u, Good (wW w (nn : Int) a n c) u → Calls Tryz.prog 32 #[.agg #[.int .i64 (nn : Int), .slice a n c], .int .i64 0] u (FAn9 u (nn : Int) (some ts))) := fun u hu => by
      have := sForestAt_any nn ls 0 n a c hn1 hn12 hW.1 u ((h.up hfa).up hu)
      rw [hts] at this
      exact this
    have HL := hideIt (lbO_yes hW hts)
    have HAll := hideIt hall
    have HO0 : Hid (((wW w (nn : Int) a n c).alloc (.cells #[] 3)).ownsRow (w.heap.size + 1) 3 1 (.slice (some ⟨w.heap.size + 1, 0, none⟩) 0 0) 0 (ic [])) := by
      show World.ownsRow _ _ _ _ _ _ _
      have h0 := World.ownsRow_lit (base := w.heap.size + 1) (e := 3) (size := 1) (wW w (nn : Int) a n c) #[] 0 (by rw [wW_size]; omega) (by unfold maxLen; omega) (by simp)
      rw [wW_size] at h0
      simpa [ic] using h0
    clear h hW hts hall
    go_enter Tryz.func23, Tryz.ntmps23
    go_wp2_with (go_at_call 9; refine HO.out.mono ?_; rintro e w1 ⟨rfl, hb1⟩; refine Hid.out ?_)
    refine (show ∀ {p : Prop}, p → Hid p from fun h => h) ?_
    have G1 : Good (wW w (nn : Int) a n c) w1 := hf2.up hb1
    have HO1 := hideIt (own_up HO0.out hb1)
    have G1b : Below (w.heap.size + 1) (wW w (nn : Int) a n c) w1 := by have := G1; unfold Good at this; rwa [wW_size] at this
    obtain ⟨cw0, cw1⟩ := wW_cells G1b
    have HF1 := hideIt (HF.out w1 G1)
    clear HO HO0 hb1 HF G1b
    go_wp2_with (go_at_call 32; refine HF1.out.mono ?_; rintro e w2 ⟨a2, m2, c2, R2, rfl, hF2, hR2, hb2⟩; refine Hid.out ?_)
    refine (show ∀ {p : Prop}, p → Hid p from fun h => h) ?_
    simp only [Option.getD_some] at hR2
    have hT2 : Ts w2 w2.heap.size a2 m2 ts := by rw [← hR2]; exact hF2.ts
    obtain ⟨W, hW⟩ : ∃ W, W = w2.alloc (.cells #[.int .i64 (nn : Int), .slice a2 m2 c2] 61) := ⟨_, rfl⟩
    have hbW : Below w2.heap.size w2 W := by rw [hW]; exact (Below.refl _ _).alloc (Nat.le_refl _) _
    have hzW : W.heap.size = w2.heap.size + 1 := by rw [hW]; simp
    have G2 := (G1.up hb2).up hbW
    have HO2 := hideIt (own_up (own_up HO1.out hb2) hbW)
    have zW := G2.size
    rw [wW_size] at zW
    have HTs := hideIt (hT2.up hbW)
    have hz2' : w.heap.size + 1 ≤ w2.heap.size := by have := (G1.up hb2).size; rw [wW_size] at this; exact this
    have HR2 := hideIt hR2
    have HSt0 : Hid (LbSt w (nn : Int) a n c w1.heap.size w2.heap.size a2 m2 c2 R2 (w.heap.size + 1) 0 0 ((labW ts nn).take 0) W) := by
      refine ⟨by simpa using HO2.out, by rw [hW]; exact Box7.new _ _ _ _ _ rfl, hF2.keep hbW, fun x hx e => ?_, ?_⟩
      · have := (hF2.ins x hx).2.1
        have := (HO1.out.lt (w.heap.size + 1) rfl).2
        omega
      · have := G2; unfold Good at this; rwa [wW_size] at this
    have hm12 : m2 ≤ 12 := by have := HAll.out.fp.2.2.1; have := HTs.out.1; omega
    clear HF1 HO1 hF2 hR2 hT2 hb2 hbW G1 G2 cw0 cw1 HO2
    go_wp2
    rw [← hW]
    go_loopw [3, 6] (fun r i wr => ∃ (k g co : Nat), k ≤ nn ∧ i = .int .i64 (k : Int) ∧ r = .slice (some ⟨g, 0, none⟩) k co ∧ LbSt w (nn : Int) a n c w1.heap.size w2.heap.size a2 m2 c2 R2 g k co ((labW ts nn).take k) wr) (fun _ i _ => nn - (intOf i).toNat)
    case atStart => exact ⟨0, _, 0, by omega, rfl, rfl, HSt0.out⟩
    case round =>
      obtain ⟨k, g, co, hk, rfl, rfl, hst⟩ := hrel
      clear HSt0
      have cw0 := (wW_cells hst.bel).1
      by_cases hlt : k < nn
      · obtain ⟨t, htm, hvt⟩ := HAll.out.cov (k : Int) (by omega) (by omega)
        obtain ⟨kt, hkt⟩ := List.mem_iff_getElem?.1 htm
        have htr := trI_of HAll.out.fp.q hkt hvt
        have hB := (HAll.out.fp.q.1 t htm).1
        have hl23 := tB_len hB
        have HLab := hideIt (labW_at HAll.out hlt htm hvt)
        have hktl := (List.getElem?_eq_some_iff.1 hkt).1
        rcases (show Ts wr wr.heap.size a2 m2 ts by rw [← HR2.out]; exact hst.fb.ts).2 with hz | ⟨b, off, rfl, hbl, hc⟩
        · have := HTs.out.1; omega
        obtain ⟨x, cx, e0, iI, _⟩ := hc kt t hkt
        have HSt := hideIt hst
        have HKt := hideIt hkt
        have HRw : Hid (∀ {g' k' co' : Nat} {L' : List Int} (u : World), LbSt w (nn : Int) a n c w1.heap.size w2.heap.size (some ⟨b, off, none⟩) m2 c2 R2 g' k' co' L' u → u.cell? ⟨b, off + kt, none⟩ = some (.slice x t.length cx)) := fun {g' k' co' L'} u hu => by
          have hoff : off = 0 := by
            rcases hu.fb.own.2 with ⟨h3, _⟩ | ⟨g3, cap, cur, hv, _⟩
            · simp at h3
            · simp at hv; omega
          subst hoff
          have hj : kt < R2.length := by rw [← rts_len, HR2.out]; exact hktl
          have h1 : u.cell? ⟨b, kt, none⟩ = (rhs R2)[kt]? := hu.fb.own.cellAt kt (by have := hu.fb.len; omega)
          have h2 : wr.cell? ⟨b, kt, none⟩ = (rhs R2)[kt]? := HSt.out.fb.own.cellAt kt (by have := HSt.out.fb.len; omega)
          rw [Nat.zero_add] at e0 ⊢
          rw [h1, ← h2]
          exact e0
        have HTr : Hid (∀ u, Good wr u → Calls Tryz.prog 34 #[.agg #[.int .i64 (nn : Int), .slice (some ⟨b, off, none⟩) m2 c2], .int .i64 (k : Int)] u fun e w' => e = .returned (.int .i64 (kt : Int)) ∧ Good wr w') := fun u hu => by
          have hT : Ts u u.heap.size (some ⟨b, off, none⟩) m2 ts := by rw [← HR2.out]; exact (HSt.out.up hu).fb.ts
          have := sTreeOf_any (nn : Int) ts (k : Int) m2 (some ⟨b, off, none⟩) c2 (by have := hT.1; have := ft_lnS HAll.out; omega) u hT
          rw [treeO_yes HAll.out.fp, htr] at this
          exact this.mono fun e u' ⟨h1, h2⟩ => ⟨h1, hu.up h2⟩
        have HVf : Hid (∀ u, Good wr u → Calls Tryz.prog 33 #[.slice x t.length cx] u fun e v => ∃ g3 m3 c3, e = .returned (.slice (some ⟨g3, 0, none⟩) m3 c3) ∧ 0 < m3 ∧ v.cell? ⟨g3, 0, none⟩ = some (.int .i64 (mnV t)) ∧ g3 < v.heap.size ∧ Good wr v) := fun u hu => vertsFirst9 hB x cx (by omega) u hu (iI.up hu)
        have HS : Hid (∀ u, Good wr u → (u.cell? ⟨w2.heap.size, 0, none⟩ = some (.int .i64 (nn : Int)) ∧ u.cell? ⟨w2.heap.size, 1, none⟩ = some (.slice (some ⟨b, off, none⟩) m2 c2)) ∧ u.cell? ⟨b, off + kt, none⟩ = some (.slice x t.length cx)) := fun u hu => ⟨⟨(HSt.out.up hu).box.cell0, (HSt.out.up hu).box.cell1⟩, HRw.out u (HSt.out.up hu)⟩
        have g0 : Good wr wr.drew := (Good.refl _).drew
        have b1 : (0 : Int) ≤ (kt : Int) := by omega
        have b2 : (kt : Int) < (m2 : Int) := by have := HTs.out.1; omega
        have hkl : k < (labW ts nn).length := by rw [labW_len]; exact hlt
        have HTk : Hid ((labW ts nn).take (k + 1) = (labW ts nn).take k ++ [mnV t]) := take_snocF _ _ _ HLab.out
        clear hst htm hvt hkt htr hB hc e0 iI hkl hktl
        go_upto_region 8 with fail
        refine wp_region_held_drew (S := (fun u => (u.cell? ⟨w2.heap.size, 0, none⟩ = some (.int .i64 (nn : Int)) ∧ u.cell? ⟨w2.heap.size, 1, none⟩ = some (.slice (some ⟨b, off, none⟩) m2 c2)) ∧ u.cell? ⟨b, off + kt, none⟩ = some (.slice x t.length cx))) (by kernel_rfl) (HS.out _ g0) (fun hHeld => ?_)
        refine wpAnyH_take (i := 0) (v := ?_) rfl (by kernel_rfl) (by kernel_rfl) (by kernel_rfl) (fun _ _ _ h => h) (Or.inl ⟨by rfl, ?_⟩) (by assumption) ?_
        rotate_left
        · intro w hSw; (try dsimp only at hSw); go_simp; try with_reducible rfl
        try simp only [Act.put, List.getElem_toArray, List.getElem_cons_zero, List.setIfInBounds_toArray, List.set_cons_zero, List.set_cons_succ]
        refine wpAnyH_take (i := 1) (v := ?_) rfl (by kernel_rfl) (by kernel_rfl) (by kernel_rfl) (fun _ _ _ h => h) (Or.inl ⟨by rfl, ?_⟩) (by assumption) ?_
        rotate_left
        · intro w hSw; (try dsimp only at hSw); go_simp; try with_reducible rfl
        try simp only [Act.put, List.getElem_toArray, List.getElem_cons_succ, List.getElem_cons_zero, List.setIfInBounds_toArray, List.set_cons_zero, List.set_cons_succ]
        refine wpAnyH_take (i := 2) (v := ?_) rfl (by kernel_rfl) (by kernel_rfl) (by kernel_rfl) (fun _ _ _ h => h) (Or.inl ⟨by rfl, ?_⟩) (by assumption) ?_
        rotate_left
        · intro w hSw; (try dsimp only at hSw); go_simp; try with_reducible rfl
        try simp only [Act.put, List.getElem_toArray, List.getElem_cons_succ, List.getElem_cons_zero, List.setIfInBounds_toArray, List.set_cons_zero, List.set_cons_succ]
        refine wpAnyH_take (i := 3) (v := ?_) rfl (by kernel_rfl) (by kernel_rfl) (by kernel_rfl) (fun _ _ _ h => h) (Or.inl ⟨by rfl, ?_⟩) (by assumption) ?_
        rotate_left
        · intro w hSw; (try dsimp only at hSw); go_simp; try with_reducible rfl
        try simp only [Act.put, List.getElem_toArray, List.getElem_cons_succ, List.getElem_cons_zero, List.setIfInBounds_toArray, List.set_cons_zero, List.set_cons_succ]
        refine wpAnyH_take (i := 4) (v := ?_) rfl (by kernel_rfl) (by kernel_rfl) (by kernel_rfl) (fun _ _ _ h => h) (Or.inl ⟨by rfl, ?_⟩) (by assumption) ?_
        rotate_left
        · intro w hSw; (try dsimp only at hSw); go_simp; try with_reducible rfl
        try simp only [Act.put, List.getElem_toArray, List.getElem_cons_succ, List.getElem_cons_zero, List.setIfInBounds_toArray, List.set_cons_zero, List.set_cons_succ]
        refine wpAnyH_ready (rs := [5]) (by kernel_rfl) (by simp) ?_
        refine AllReadyH.cons rfl (fun K hK => ?_) AllReadyH.nil
        rw [if_pos (show Region.wanted _ _ = true by rfl)]
        go_wp2_with (go_at_call 34; refine (HTr.out _ g0).mono ?_; rintro e w4 ⟨rfl, g4⟩; refine Hid.out ?_)
        refine (show ∀ {p : Prop}, p → Hid p from fun h => h) ?_
        refine hK.out _ _ (HS.out _ g4) (fun hHeld => ?_)
        clear hK K
        try simp only [Act.put, List.getElem_toArray, List.getElem_cons_succ, List.getElem_cons_zero, List.setIfInBounds_toArray, List.set_cons_zero, List.set_cons_succ]
        refine wpAnyH_ready (rs := [6]) (by kernel_rfl) (by simp) ?_
        refine AllReadyH.cons rfl (fun K hK => ?_) AllReadyH.nil
        go_simp
        refine hK.out _ _ (by assumption) (fun hHeld => ?_)
        clear hK K
        try simp only [Act.put, List.getElem_toArray, List.getElem_cons_succ, List.getElem_cons_zero, List.setIfInBounds_toArray, List.set_cons_zero, List.set_cons_succ]
        refine wpAnyH_ready (rs := [7]) (by kernel_rfl) (by simp) ?_
        refine AllReadyH.cons rfl (fun K hK => ?_) AllReadyH.nil
        go_simp
        refine hK.out _ _ (by assumption) (fun hHeld => ?_)
        clear hK K
        try simp only [Act.put, List.getElem_toArray, List.getElem_cons_succ, List.getElem_cons_zero, List.setIfInBounds_toArray, List.set_cons_zero, List.set_cons_succ]
        refine wpAnyH_ready (rs := [8]) (by kernel_rfl) (by simp) ?_
        refine AllReadyH.cons rfl (fun K hK => ?_) AllReadyH.nil
        rw [if_pos (show Region.wanted _ _ = true by rfl)]
        go_wp2_with (go_at_call 33; refine (HVf.out _ g4).mono ?_; rintro e w5 ⟨g5, m5, c5, rfl, hm5, hc5, hl5, g5'⟩; refine Hid.out ?_)
        refine (show ∀ {p : Prop}, p → Hid p from fun h => h) ?_
        refine hK.out _ _ (HS.out _ g5') (fun hHeld => ?_)
        clear hK K
        try simp only [Act.put, List.getElem_toArray, List.getElem_cons_succ, List.getElem_cons_zero, List.setIfInBounds_toArray, List.set_cons_zero, List.set_cons_succ]
        refine wpAnyH_ready (rs := [9]) (by kernel_rfl) (by simp) ?_
        refine AllReadyH.cons rfl (fun K hK => ?_) AllReadyH.nil
        go_simp
        refine hK.out _ _ (by assumption) (fun hHeld => ?_)
        clear hK K
        try simp only [Act.put, List.getElem_toArray, List.getElem_cons_succ, List.getElem_cons_zero, List.setIfInBounds_toArray, List.set_cons_zero, List.set_cons_succ]
        refine wpAnyH_ready (rs := [10]) (by kernel_rfl) (by simp) ?_
        refine AllReadyH.cons rfl (fun K hK => ?_) AllReadyH.nil
        go_simp
        refine hK.out _ _ (by assumption) (fun hHeld => ?_)
        clear hK K
        try simp only [Act.put, List.getElem_toArray, List.getElem_cons_succ, List.getElem_cons_zero, List.setIfInBounds_toArray, List.set_cons_zero, List.set_cons_succ]
        refine wpAnyH_ready (rs := [11]) (by kernel_rfl) (by simp) ?_
        refine AllReadyH.cons rfl (fun K hK => ?_) AllReadyH.nil
        go_simp
        refine hK.out _ _ (HS.out _ (g5'.alloc _)) (fun hHeld => ?_)
        clear hK K
        try simp only [Act.put, List.getElem_toArray, List.getElem_cons_succ, List.getElem_cons_zero, List.setIfInBounds_toArray, List.set_cons_zero, List.set_cons_succ]
        refine wpAnyH_ready (rs := [12]) (by kernel_rfl) (by simp) ?_
        refine AllReadyH.cons rfl (fun K hK => ?_) AllReadyH.nil
        refine step_append_lies _ (by rfl) _ _ _ (by rfl) (w.heap.size + 1) 3 i0 _ 1 8 Tryz.underlying46 hi hz0 hz1 hz2 rfl (by decide) _ k _ (by rfl) ((HSt.out.up (g5'.alloc (.cells #[.int .i64 (mnV t)] 3))).own) ⟨w5.heap.size, 0, none⟩ 1 1 [.int .i64 (mnV t)] (by rfl) (by rfl) (newsI w5 (mnV t)) (by intro u hu; simp at hu; subst hu; rfl) (by omega) (by unfold maxLen; omega) (by omega) (by have := (HSt.out.up (g5'.alloc (.cells #[.int .i64 (mnV t)] 3))).size; omega) (w5.heap.size + 1) (by simp) ?_
        intro g6 c6 w6 hown6 hg6 hat6 hlt6
        have S6 := (HSt.out.up (g5'.alloc (.cells #[.int .i64 (mnV t)] 3))).app hown6 hg6 (hat6.imp (fun h1 => by simpa [Value.ownBlock] using h1) (fun h1 => by simpa using h1))
        refine hK.out _ _ ⟨⟨S6.box.cell0, S6.box.cell1⟩, HRw.out _ S6⟩ (fun hHeld => ?_)
        clear hK K
        try simp only [Act.put, List.getElem_toArray, List.getElem_cons_succ, List.getElem_cons_zero, List.setIfInBounds_toArray, List.set_cons_zero, List.set_cons_succ]
        refine wpAnyH_ready (rs := [13]) (by kernel_rfl) (by simp) ?_
        refine AllReadyH.cons rfl (fun K hK => ?_) AllReadyH.nil
        go_simp
        refine hK.out _ _ (by assumption) (fun hHeld => ?_)
        clear hK K
        try simp only [Act.put, List.getElem_toArray, List.getElem_cons_succ, List.getElem_cons_zero, List.setIfInBounds_toArray, List.set_cons_zero, List.set_cons_succ]
        refine wpAnyH_done (by kernel_rfl) ?_ _
        have HS6 := hideIt S6
        clear S6 hown6 hg6 hat6 hlt6 hc5 hl5 hHeld
        go_wp2
        exact ⟨⟨k + 1, g6, c6, by omega, by go_num, rfl, by rw [HTk.out]; exact HS6.out⟩, by simp [intOf]; omega⟩
      · obtain rfl : k = nn := by omega
        have HT : Hid ((labW ts k).take k = labW ts k) := by show _ = _; rw [List.take_of_length_le (by rw [labW_len]; omega)]
        have HSt := hideIt hst
        clear hst
        go_wp2
        go_ret
        exact ⟨_, _, _, rfl, by rw [HL.out, ← HT.out]; exact own_mono HSt.out.own (by omega), hfa.trans (HSt.out.bel.mono (by omega))⟩
  · rw [wB_no hW] at HO
    have HO := hideIt HO
    have HL := hideIt (lbO_no hW)
    have HO0 : Hid (((wW w N a n c).alloc (.cells #[] 3)).ownsRow (w.heap.size + 1) 3 1 (.slice (some ⟨w.heap.size + 1, 0, none⟩) 0 0) 0 (ic [])) := by
      show World.ownsRow _ _ _ _ _ _ _
      have h0 := World.ownsRow_lit (base := w.heap.size + 1) (e := 3) (size := 1) (wW w N a n c) #[] 0 (by rw [wW_size]; omega) (by unfold maxLen; omega) (by simp)
      rw [wW_size] at h0
      simpa [ic] using h0
    clear h hW
    go_enter Tryz.func23, Tryz.ntmps23
    go_wp2_with (go_at_call 9; refine HO.out.mono ?_; rintro e w1 ⟨rfl, hb1⟩)
    go_ret
    exact ⟨_, _, _, rfl, by rw [HL.out]; exact own_mono (own_up HO0.out hb1) (by omega), (hfa.up hf2).up hb1⟩
end Go.Proofs.YtgjngaaibcmgmabGreat
namespace Go.Proofs.YtgjngaaibcmgmabGreat
open Go.RowKit

theorem lb_tg {N : Int} {ls : List Ld} {x y : Int} : tgB N ls x y = true ↔ (0 ≤ x ∧ x ≤ ((lbO N ls).length : Int) - 1) ∧ (0 ≤ y ∧ y ≤ ((lbO N ls).length : Int) - 1) ∧ (lbO N ls)[x.toNat]? = (lbO N ls)[y.toNat]? := by
  rw [tgB_iff]
  by_cases hW : WOk N ls
  · obtain ⟨nn, rfl, hn1, hn12⟩ := gB_n hW.1
    obtain ⟨ts, hts, hall⟩ := hW.trees 0 (by omega)
    have hts : ftK (fE ls 0) nn nn = some ts := hts
    rw [lbO_yes hW hts, labW_len, gndT_is hts]
    constructor
    · rintro ⟨_, h1, h2, h3⟩
      refine ⟨by omega, by omega, ?_⟩
      obtain ⟨t, ht, hxt⟩ := hall.cov x h1.1 h1.2
      obtain ⟨s, hs, hys⟩ := hall.cov y h2.1 h2.2
      obtain ⟨i, hi⟩ := List.mem_iff_getElem?.1 ht
      obtain ⟨j, hj⟩ := List.mem_iff_getElem?.1 hs
      rw [trI_of hall.fp.q hi hxt, trI_of hall.fp.q hj hys] at h3
      obtain rfl : i = j := by omega
      rw [hi] at hj
      obtain rfl := Option.some.inj hj
      rw [labW_at hall (v := x.toNat) (by omega) ht (by rw [Int.toNat_of_nonneg h1.1]; exact hxt), labW_at hall (v := y.toNat) (by omega) ht (by rw [Int.toNat_of_nonneg h2.1]; exact hys)]
    · rintro ⟨h1, h2, h3⟩
      refine ⟨hW, by omega, by omega, ?_⟩
      obtain ⟨t, ht, hxt⟩ := hall.cov x h1.1 (by omega)
      obtain ⟨s, hs, hys⟩ := hall.cov y h2.1 (by omega)
      rw [labW_at hall (v := x.toNat) (by omega) ht (by rw [Int.toNat_of_nonneg h1.1]; exact hxt), labW_at hall (v := y.toNat) (by omega) hs (by rw [Int.toNat_of_nonneg h2.1]; exact hys)] at h3
      have h4 := Option.some.inj h3
      exact (head_same hall ht hs hxt hys (by rw [← List.head?_eq_getElem?]; exact hall.mn t ht) (by rw [← List.head?_eq_getElem?]; exact hall.mn s hs)).1 h4
  · rw [lbO_no hW]
    exact ⟨fun h => absurd h.1 hW, fun h => by have := h.1; simp at this; omega⟩
theorem tg_no {N : Int} {ls : List Ld} {x y : Int} (h : ¬ ((0 ≤ x ∧ x ≤ ((lbO N ls).length : Int) - 1) ∧ (0 ≤ y ∧ y ≤ ((lbO N ls).length : Int) - 1) ∧ (lbO N ls)[x.toNat]? = (lbO N ls)[y.toNat]?)) : tgB N ls x y = false := by
  cases hb : tgB N ls x y with
  | false => rfl
  | true => exact absurd (lb_tg.1 hb) h
set_option maxRecDepth 100000 in
set_option maxHeartbeats 4000000 in
theorem sWebTogether_any (N : Int) (ls : List Ld) (x y : Int) (n : Nat) (a : Option Addr) (c : Nat) (hn : n ≤ 1048576) (w : World) (h : Ls w w.heap.size a n ls) :
    Calls Tryz.prog 21 #[.agg #[.int .i64 N, .slice a n c], .int .i64 x, .int .i64 y] w fun e w' => e = .returned (.bool (tgB N ls x y)) ∧ Below w.heap.size w w' := by
  have hfa : Good w (wW w N a n c) := wW_good w N a n c
  have HL := hideIt (sWebLabels_any N ls n a c hn _ (h.up hfa))
  have hl12 := lbO_len N ls
  have HTg := hideIt (@lb_tg N ls x y)
  have HTn := hideIt (@tg_no N ls x y)
  have HI := hideIt l01In_any
  obtain ⟨B, hB⟩ : ∃ B, tgB N ls x y = B := ⟨_, rfl⟩
  rw [hB] at HTg HTn ⊢
  generalize lbO N ls = l at *
  clear h hB
  have HTy : Hid ((0 ≤ x ∧ x ≤ (l.length : Int) - 1) ∧ (0 ≤ y ∧ y ≤ (l.length : Int) - 1) ∧ l[x.toNat]? = l[y.toNat]? → B = true) := fun h => HTg.out.2 h
  clear HTg
  by_cases hx : 0 ≤ x ∧ x ≤ (l.length : Int) - 1
  · have rx : decide (0 ≤ x ∧ x ≤ (l.length : Int) - 1) = true := decide_eq_true hx
    by_cases hy : 0 ≤ y ∧ y ≤ (l.length : Int) - 1
    · have ry : decide (0 ≤ y ∧ y ≤ (l.length : Int) - 1) = true := decide_eq_true hy
      obtain ⟨p, hp⟩ : ∃ p, l[x.toNat]? = some p := ⟨l[x.toNat]'(by omega), List.getElem?_eq_getElem (by omega)⟩
      obtain ⟨q, hq⟩ : ∃ q, l[y.toNat]? = some q := ⟨l[y.toNat]'(by omega), List.getElem?_eq_getElem (by omega)⟩
      have HB : Hid ((p == q) = B) := by
        show _ = _
        by_cases e : p = q
        · rw [HTy.out ⟨hx, hy, by rw [hp, hq, e]⟩]; simpa using e
        · rw [HTn.out fun h => e (by have := h.2.2; rw [hp, hq] at this; exact Option.some.inj this)]; simpa using e
      have HP := hideIt hp
      have HQ := hideIt hq
      obtain ⟨x0, x1⟩ := hx
      obtain ⟨y0, y1⟩ := hy
      have x2 : x < (l.length : Int) := by omega
      have y2 : y < (l.length : Int) := by omega
      clear HTy HTn hp hq
      go_enter Tryz.func21, Tryz.ntmps21
      go_wp2_with (go_at_call 23; refine HL.out.mono ?_; rintro e w1 ⟨a1, m1, c1, rfl, ho1, hb1⟩; refine Hid.out ?_)
      refine (show ∀ {p : Prop}, p → Hid p from fun h => h) ?_
      have hm : l.length = m1 := by have := ho1.1; rw [ic_len] at this; omega
      subst hm
      obtain ⟨g1, c1', hform, _⟩ := ho1.form (by omega)
      simp at hform
      obtain ⟨rfl, rfl⟩ := hform
      have r1 : w1.cell? ⟨g1, x.toNat, none⟩ = some (.int .i64 p) := by rw [ho1.cellAt x.toNat (by omega)]; exact ic_at HP.out
      have r2 : w1.cell? ⟨g1, y.toNat, none⟩ = some (.int .i64 q) := by rw [ho1.cellAt y.toNat (by omega)]; exact ic_at HQ.out
      have hw1 : IntKind.i64.wrap ((l.length : Int) - 1) = (l.length : Int) - 1 := by rw [IntKind.wrap_i64]; omega
      have HG := hideIt (hfa.up hb1)
      clear ho1 hb1 HL HP HQ
      have hS0 := And.intro r1 r2
      have HIx : Hid (∀ u, Calls Tryz.prog 31 #[.int .i64 x, .int .i64 0, .int .i64 ((l.length : Int) - 1)] u fun e w' => e = .returned (.bool true) ∧ w' = u) := fun u => by
        have := HI.out x 0 ((l.length : Int) - 1) u
        rw [rx] at this
        exact this
      have HIy : Hid (∀ u, Calls Tryz.prog 31 #[.int .i64 y, .int .i64 0, .int .i64 ((l.length : Int) - 1)] u fun e w' => e = .returned (.bool true) ∧ w' = u) := fun u => by
        have := HI.out y 0 ((l.length : Int) - 1) u
        rw [ry] at this
        exact this
      clear HI rx ry
      go_wp2
      refine wp_region_held_drew (S := (fun u => u.cell? ⟨g1, x.toNat, none⟩ = some (.int .i64 p) ∧ u.cell? ⟨g1, y.toNat, none⟩ = some (.int .i64 q))) (by kernel_rfl) hS0 (fun hHeld => ?_)
      refine wpAnyH_take (i := 0) (v := ?_) rfl (by kernel_rfl) (by kernel_rfl) (by kernel_rfl) (fun _ _ _ h => h) (Or.inl ⟨by rfl, ?_⟩) (by assumption) ?_
      rotate_left
      · intro w hSw; (try dsimp only at hSw); go_simp; try with_reducible rfl
      try simp only [Act.put, List.getElem_toArray, List.getElem_cons_zero, List.setIfInBounds_toArray, List.set_cons_zero, List.set_cons_succ]
      refine wpAnyH_take (i := 1) (v := ?_) rfl (by kernel_rfl) (by kernel_rfl) (by kernel_rfl) (fun _ _ _ h => h) (Or.inl ⟨by rfl, ?_⟩) (by assumption) ?_
      rotate_left
      · intro w hSw; (try dsimp only at hSw); go_simp; try with_reducible rfl
      try simp only [Act.put, List.getElem_toArray, List.getElem_cons_succ, List.getElem_cons_zero, List.setIfInBounds_toArray, List.set_cons_zero, List.set_cons_succ]
      refine wpAnyH_take (i := 2) (v := ?_) rfl (by kernel_rfl) (by kernel_rfl) (by kernel_rfl) (fun _ _ _ h => h) (Or.inl ⟨by rfl, ?_⟩) (by assumption) ?_
      rotate_left
      · intro w hSw; (try dsimp only at hSw); go_simp; try with_reducible rfl
      try simp only [Act.put, List.getElem_toArray, List.getElem_cons_succ, List.getElem_cons_zero, List.setIfInBounds_toArray, List.set_cons_zero, List.set_cons_succ]
      refine wpAnyH_take (i := 3) (v := ?_) rfl (by kernel_rfl) (by kernel_rfl) (by kernel_rfl) (fun _ _ _ h => h) (Or.inl ⟨by rfl, ?_⟩) (by assumption) ?_
      rotate_left
      · intro w hSw; (try dsimp only at hSw); go_simp; try with_reducible rfl
      try simp only [Act.put, List.getElem_toArray, List.getElem_cons_succ, List.getElem_cons_zero, List.setIfInBounds_toArray, List.set_cons_zero, List.set_cons_succ]
      refine wpAnyH_ready (rs := [4]) (by kernel_rfl) (by simp) ?_
      refine AllReadyH.cons rfl (fun K hK => ?_) AllReadyH.nil
      rw [if_pos (show Region.wanted _ _ = true by rfl)]
      go_wp2_with (go_at_call 31; refine (HIx.out _).mono ?_; rintro e w2 ⟨rfl, hw⟩; have hw' := hw.symm; subst hw'; clear hw; refine Hid.out ?_)
      refine (show ∀ {p : Prop}, p → Hid p from fun h => h) ?_
      refine hK.out _ _ hS0 (fun hHeld => ?_)
      clear hK K
      try simp only [Act.put, List.getElem_toArray, List.getElem_cons_succ, List.getElem_cons_zero, List.setIfInBounds_toArray, List.set_cons_zero, List.set_cons_succ]
      refine wpAnyH_take (i := 5) (v := ?_) rfl (by kernel_rfl) (by kernel_rfl) (by kernel_rfl) (fun _ _ _ h => h) (Or.inl ⟨by rfl, ?_⟩) (by assumption) ?_
      rotate_left
      · intro w hSw; (try dsimp only at hSw); go_simp; try with_reducible rfl
      try simp only [Act.put, List.getElem_toArray, List.getElem_cons_succ, List.getElem_cons_zero, List.setIfInBounds_toArray, List.set_cons_zero, List.set_cons_succ]
      refine wpAnyH_take (i := 6) (v := ?_) rfl (by kernel_rfl) (by kernel_rfl) (by kernel_rfl) (fun _ _ _ h => h) (Or.inl ⟨by rfl, ?_⟩) (by assumption) ?_
      rotate_left
      · intro w hSw; (try dsimp only at hSw); go_simp; try with_reducible rfl
      try simp only [Act.put, List.getElem_toArray, List.getElem_cons_succ, List.getElem_cons_zero, List.setIfInBounds_toArray, List.set_cons_zero, List.set_cons_succ]
      refine wpAnyH_take (i := 7) (v := ?_) rfl (by kernel_rfl) (by kernel_rfl) (by kernel_rfl) (fun _ _ _ h => h) (Or.inl ⟨by rfl, ?_⟩) (by assumption) ?_
      rotate_left
      · intro w hSw; (try dsimp only at hSw); go_simp; try with_reducible rfl
      try simp only [Act.put, List.getElem_toArray, List.getElem_cons_succ, List.getElem_cons_zero, List.setIfInBounds_toArray, List.set_cons_zero, List.set_cons_succ]
      refine wpAnyH_take (i := 8) (v := ?_) rfl (by kernel_rfl) (by kernel_rfl) (by kernel_rfl) (fun _ _ _ h => h) (Or.inl ⟨by rfl, ?_⟩) (by assumption) ?_
      rotate_left
      · intro w hSw; (try dsimp only at hSw); go_simp; try with_reducible rfl
      try simp only [Act.put, List.getElem_toArray, List.getElem_cons_succ, List.getElem_cons_zero, List.setIfInBounds_toArray, List.set_cons_zero, List.set_cons_succ]
      refine wpAnyH_take (i := 9) (v := ?_) rfl (by kernel_rfl) (by kernel_rfl) (by kernel_rfl) (fun _ _ _ h => h) (Or.inl ⟨by rfl, ?_⟩) (by assumption) ?_
      rotate_left
      · intro w hSw; (try dsimp only at hSw); go_simp; try with_reducible rfl
      try simp only [Act.put, List.getElem_toArray, List.getElem_cons_succ, List.getElem_cons_zero, List.setIfInBounds_toArray, List.set_cons_zero, List.set_cons_succ]
      refine wpAnyH_ready (rs := [10]) (by kernel_rfl) (by simp) ?_
      refine AllReadyH.cons rfl (fun K hK => ?_) AllReadyH.nil
      rw [if_pos (show Region.wanted _ _ = true by rfl)]
      go_wp2_with (go_at_call 31; refine (HIy.out _).mono ?_; rintro e w2 ⟨rfl, hw⟩; have hw' := hw.symm; subst hw'; clear hw; refine Hid.out ?_)
      refine (show ∀ {p : Prop}, p → Hid p from fun h => h) ?_
      refine hK.out _ _ hS0 (fun hHeld => ?_)
      clear hK K
      try simp only [Act.put, List.getElem_toArray, List.getElem_cons_succ, List.getElem_cons_zero, List.setIfInBounds_toArray, List.set_cons_zero, List.set_cons_succ]
      refine wpAnyH_take (i := 11) (v := ?_) rfl (by kernel_rfl) (by kernel_rfl) (by kernel_rfl) (fun _ _ _ h => h) (Or.inl ⟨by rfl, ?_⟩) (by assumption) ?_
      rotate_left
      · intro w hSw; (try dsimp only at hSw); go_simp; try with_reducible rfl
      try simp only [Act.put, List.getElem_toArray, List.getElem_cons_succ, List.getElem_cons_zero, List.setIfInBounds_toArray, List.set_cons_zero, List.set_cons_succ]
      refine wpAnyH_take (i := 12) (v := ?_) rfl (by kernel_rfl) (by kernel_rfl) (by kernel_rfl) (fun _ _ _ h => h) (Or.inl ⟨by rfl, ?_⟩) (by assumption) ?_
      rotate_left
      · intro w hSw; (try dsimp only at hSw); go_simp; try with_reducible rfl
      try simp only [Act.put, List.getElem_toArray, List.getElem_cons_succ, List.getElem_cons_zero, List.setIfInBounds_toArray, List.set_cons_zero, List.set_cons_succ]
      refine wpAnyH_take (i := 13) (v := ?_) rfl (by kernel_rfl) (by kernel_rfl) (by kernel_rfl) (fun _ _ _ h => h) (Or.inl ⟨by rfl, ?_⟩) (by assumption) ?_
      rotate_left
      · intro w hSw; (try dsimp only at hSw); go_simp; try with_reducible rfl
      try simp only [Act.put, List.getElem_toArray, List.getElem_cons_succ, List.getElem_cons_zero, List.setIfInBounds_toArray, List.set_cons_zero, List.set_cons_succ]
      refine wpAnyH_take (i := 14) (v := ?_) rfl (by kernel_rfl) (by kernel_rfl) (by kernel_rfl) (fun _ _ _ h => h) (Or.inl ⟨by rfl, ?_⟩) (by assumption) ?_
      rotate_left
      · intro w hSw; (try dsimp only at hSw); go_simp; try with_reducible rfl
      try simp only [Act.put, List.getElem_toArray, List.getElem_cons_succ, List.getElem_cons_zero, List.setIfInBounds_toArray, List.set_cons_zero, List.set_cons_succ]
      refine wpAnyH_take (i := 15) (v := ?_) rfl (by kernel_rfl) (by kernel_rfl) (by kernel_rfl) (fun _ _ _ h => h) (Or.inl ⟨by rfl, ?_⟩) (by assumption) ?_
      rotate_left
      · intro w hSw; (try dsimp only at hSw); go_simp; try with_reducible rfl
      try simp only [Act.put, List.getElem_toArray, List.getElem_cons_succ, List.getElem_cons_zero, List.setIfInBounds_toArray, List.set_cons_zero, List.set_cons_succ]
      refine wpAnyH_take (i := 16) (v := ?_) rfl (by kernel_rfl) (by kernel_rfl) (by kernel_rfl) (fun _ _ _ h => h) (Or.inl ⟨by rfl, ?_⟩) (by assumption) ?_
      rotate_left
      · intro w hSw; (try dsimp only at hSw); go_simp; try with_reducible rfl
      try simp only [Act.put, List.getElem_toArray, List.getElem_cons_succ, List.getElem_cons_zero, List.setIfInBounds_toArray, List.set_cons_zero, List.set_cons_succ]
      refine wpAnyH_take (i := 17) (v := ?_) rfl (by kernel_rfl) (by kernel_rfl) (by kernel_rfl) (fun _ _ _ h => h) (Or.inl ⟨by rfl, ?_⟩) (by assumption) ?_
      rotate_left
      · intro w hSw; (try dsimp only at hSw); go_simp; try with_reducible rfl
      try simp only [Act.put, List.getElem_toArray, List.getElem_cons_succ, List.getElem_cons_zero, List.setIfInBounds_toArray, List.set_cons_zero, List.set_cons_succ]
      refine wpAnyH_take (i := 18) (v := ?_) rfl (by kernel_rfl) (by kernel_rfl) (by kernel_rfl) (fun _ _ _ h => h) (Or.inl ⟨by rfl, ?_⟩) (by assumption) ?_
      rotate_left
      · intro w hSw; (try dsimp only at hSw); go_simp; try with_reducible rfl
      try simp only [Act.put, List.getElem_toArray, List.getElem_cons_succ, List.getElem_cons_zero, List.setIfInBounds_toArray, List.set_cons_zero, List.set_cons_succ]
      refine wpAnyH_take (i := 19) (v := ?_) rfl (by kernel_rfl) (by kernel_rfl) (by kernel_rfl) (fun _ _ _ h => h) (Or.inl ⟨by rfl, ?_⟩) (by assumption) ?_
      rotate_left
      · intro w hSw; (try dsimp only at hSw); go_simp; try with_reducible rfl
      try simp only [Act.put, List.getElem_toArray, List.getElem_cons_succ, List.getElem_cons_zero, List.setIfInBounds_toArray, List.set_cons_zero, List.set_cons_succ]
      refine wpAnyH_take (i := 20) (v := ?_) rfl (by kernel_rfl) (by kernel_rfl) (by kernel_rfl) (fun _ _ _ h => h) (Or.inl ⟨by rfl, ?_⟩) (by assumption) ?_
      rotate_left
      · intro w hSw; (try dsimp only at hSw); go_simp; try with_reducible rfl
      try simp only [Act.put, List.getElem_toArray, List.getElem_cons_succ, List.getElem_cons_zero, List.setIfInBounds_toArray, List.set_cons_zero, List.set_cons_succ]
      refine wpAnyH_take (i := 21) (v := ?_) rfl (by kernel_rfl) (by kernel_rfl) (by kernel_rfl) (fun _ _ _ h => h) (Or.inl ⟨by rfl, ?_⟩) (by assumption) ?_
      rotate_left
      · intro w hSw; (try dsimp only at hSw); go_simp; try with_reducible rfl
      try simp only [Act.put, List.getElem_toArray, List.getElem_cons_succ, List.getElem_cons_zero, List.setIfInBounds_toArray, List.set_cons_zero, List.set_cons_succ]
      refine wpAnyH_take (i := 22) (v := ?_) rfl (by kernel_rfl) (by kernel_rfl) (by kernel_rfl) (fun _ _ _ h => h) (Or.inl ⟨by rfl, ?_⟩) (by assumption) ?_
      rotate_left
      · intro w hSw; (try dsimp only at hSw); go_simp; try with_reducible rfl
      try simp only [Act.put, List.getElem_toArray, List.getElem_cons_succ, List.getElem_cons_zero, List.setIfInBounds_toArray, List.set_cons_zero, List.set_cons_succ]
      refine wpAnyH_ready (rs := [23]) (by kernel_rfl) (by simp) ?_
      refine AllReadyH.cons rfl (fun K hK => ?_) AllReadyH.nil
      go_simp
      refine hK.out _ _ (by assumption) (fun hHeld => ?_)
      clear hK K
      try simp only [Act.put, List.getElem_toArray, List.getElem_cons_succ, List.getElem_cons_zero, List.setIfInBounds_toArray, List.set_cons_zero, List.set_cons_succ]
      refine wpAnyH_done (by kernel_rfl) ?_ _
      go_wp2
      go_ret
      exact ⟨by rw [← HB.out]; rfl, HG.out.drew⟩
    · have ry : decide (0 ≤ y ∧ y ≤ (l.length : Int) - 1) = false := decide_eq_false hy
      have HB := hideIt (HTn.out fun h => hy h.2.1)
      clear HTy HTn
      go_enter Tryz.func21, Tryz.ntmps21
      go_wp2_with (go_at_call 23; refine HL.out.mono ?_; rintro e w1 ⟨a1, m1, c1, rfl, ho1, hb1⟩; refine Hid.out ?_)
      refine (show ∀ {p : Prop}, p → Hid p from fun h => h) ?_
      have hm : l.length = m1 := by have := ho1.1; rw [ic_len] at this; omega
      subst hm
      have hw1 : IntKind.i64.wrap ((l.length : Int) - 1) = (l.length : Int) - 1 := by rw [IntKind.wrap_i64]; omega
      have HG := hideIt (hfa.up hb1)
      clear ho1 hb1 HL
      have HIx : Hid (∀ u, Calls Tryz.prog 31 #[.int .i64 x, .int .i64 0, .int .i64 ((l.length : Int) - 1)] u fun e w' => e = .returned (.bool true) ∧ w' = u) := fun u => by
        have := HI.out x 0 ((l.length : Int) - 1) u
        rw [rx] at this
        exact this
      have HIy : Hid (∀ u, Calls Tryz.prog 31 #[.int .i64 y, .int .i64 0, .int .i64 ((l.length : Int) - 1)] u fun e w' => e = .returned (.bool false) ∧ w' = u) := fun u => by
        have := HI.out y 0 ((l.length : Int) - 1) u
        rw [ry] at this
        exact this
      clear HI rx ry
      go_wp2
      refine wp_region_held_drew (S := (fun _ => True)) (by kernel_rfl) trivial (fun hHeld => ?_)
      refine wpAnyH_take (i := 0) (v := ?_) rfl (by kernel_rfl) (by kernel_rfl) (by kernel_rfl) (fun _ _ _ h => h) (Or.inl ⟨by rfl, ?_⟩) (by assumption) ?_
      rotate_left
      · intro w hSw; (try dsimp only at hSw); go_simp; try with_reducible rfl
      try simp only [Act.put, List.getElem_toArray, List.getElem_cons_zero, List.setIfInBounds_toArray, List.set_cons_zero, List.set_cons_succ]
      refine wpAnyH_take (i := 1) (v := ?_) rfl (by kernel_rfl) (by kernel_rfl) (by kernel_rfl) (fun _ _ _ h => h) (Or.inl ⟨by rfl, ?_⟩) (by assumption) ?_
      rotate_left
      · intro w hSw; (try dsimp only at hSw); go_simp; try with_reducible rfl
      try simp only [Act.put, List.getElem_toArray, List.getElem_cons_succ, List.getElem_cons_zero, List.setIfInBounds_toArray, List.set_cons_zero, List.set_cons_succ]
      refine wpAnyH_take (i := 2) (v := ?_) rfl (by kernel_rfl) (by kernel_rfl) (by kernel_rfl) (fun _ _ _ h => h) (Or.inl ⟨by rfl, ?_⟩) (by assumption) ?_
      rotate_left
      · intro w hSw; (try dsimp only at hSw); go_simp; try with_reducible rfl
      try simp only [Act.put, List.getElem_toArray, List.getElem_cons_succ, List.getElem_cons_zero, List.setIfInBounds_toArray, List.set_cons_zero, List.set_cons_succ]
      refine wpAnyH_take (i := 3) (v := ?_) rfl (by kernel_rfl) (by kernel_rfl) (by kernel_rfl) (fun _ _ _ h => h) (Or.inl ⟨by rfl, ?_⟩) (by assumption) ?_
      rotate_left
      · intro w hSw; (try dsimp only at hSw); go_simp; try with_reducible rfl
      try simp only [Act.put, List.getElem_toArray, List.getElem_cons_succ, List.getElem_cons_zero, List.setIfInBounds_toArray, List.set_cons_zero, List.set_cons_succ]
      refine wpAnyH_ready (rs := [4]) (by kernel_rfl) (by simp) ?_
      refine AllReadyH.cons rfl (fun K hK => ?_) AllReadyH.nil
      rw [if_pos (show Region.wanted _ _ = true by rfl)]
      go_wp2_with (go_at_call 31; refine (HIx.out _).mono ?_; rintro e w2 ⟨rfl, hw⟩; have hw' := hw.symm; subst hw'; clear hw; refine Hid.out ?_)
      refine (show ∀ {p : Prop}, p → Hid p from fun h => h) ?_
      refine hK.out _ _ trivial (fun hHeld => ?_)
      clear hK K
      try simp only [Act.put, List.getElem_toArray, List.getElem_cons_succ, List.getElem_cons_zero, List.setIfInBounds_toArray, List.set_cons_zero, List.set_cons_succ]
      refine wpAnyH_take (i := 5) (v := ?_) rfl (by kernel_rfl) (by kernel_rfl) (by kernel_rfl) (fun _ _ _ h => h) (Or.inl ⟨by rfl, ?_⟩) (by assumption) ?_
      rotate_left
      · intro w hSw; (try dsimp only at hSw); go_simp; try with_reducible rfl
      try simp only [Act.put, List.getElem_toArray, List.getElem_cons_succ, List.getElem_cons_zero, List.setIfInBounds_toArray, List.set_cons_zero, List.set_cons_succ]
      refine wpAnyH_take (i := 6) (v := ?_) rfl (by kernel_rfl) (by kernel_rfl) (by kernel_rfl) (fun _ _ _ h => h) (Or.inl ⟨by rfl, ?_⟩) (by assumption) ?_
      rotate_left
      · intro w hSw; (try dsimp only at hSw); go_simp; try with_reducible rfl
      try simp only [Act.put, List.getElem_toArray, List.getElem_cons_succ, List.getElem_cons_zero, List.setIfInBounds_toArray, List.set_cons_zero, List.set_cons_succ]
      refine wpAnyH_take (i := 7) (v := ?_) rfl (by kernel_rfl) (by kernel_rfl) (by kernel_rfl) (fun _ _ _ h => h) (Or.inl ⟨by rfl, ?_⟩) (by assumption) ?_
      rotate_left
      · intro w hSw; (try dsimp only at hSw); go_simp; try with_reducible rfl
      try simp only [Act.put, List.getElem_toArray, List.getElem_cons_succ, List.getElem_cons_zero, List.setIfInBounds_toArray, List.set_cons_zero, List.set_cons_succ]
      refine wpAnyH_take (i := 8) (v := ?_) rfl (by kernel_rfl) (by kernel_rfl) (by kernel_rfl) (fun _ _ _ h => h) (Or.inl ⟨by rfl, ?_⟩) (by assumption) ?_
      rotate_left
      · intro w hSw; (try dsimp only at hSw); go_simp; try with_reducible rfl
      try simp only [Act.put, List.getElem_toArray, List.getElem_cons_succ, List.getElem_cons_zero, List.setIfInBounds_toArray, List.set_cons_zero, List.set_cons_succ]
      refine wpAnyH_take (i := 9) (v := ?_) rfl (by kernel_rfl) (by kernel_rfl) (by kernel_rfl) (fun _ _ _ h => h) (Or.inl ⟨by rfl, ?_⟩) (by assumption) ?_
      rotate_left
      · intro w hSw; (try dsimp only at hSw); go_simp; try with_reducible rfl
      try simp only [Act.put, List.getElem_toArray, List.getElem_cons_succ, List.getElem_cons_zero, List.setIfInBounds_toArray, List.set_cons_zero, List.set_cons_succ]
      refine wpAnyH_ready (rs := [10]) (by kernel_rfl) (by simp) ?_
      refine AllReadyH.cons rfl (fun K hK => ?_) AllReadyH.nil
      rw [if_pos (show Region.wanted _ _ = true by rfl)]
      go_wp2_with (go_at_call 31; refine (HIy.out _).mono ?_; rintro e w2 ⟨rfl, hw⟩; have hw' := hw.symm; subst hw'; clear hw; refine Hid.out ?_)
      refine (show ∀ {p : Prop}, p → Hid p from fun h => h) ?_
      refine hK.out _ _ trivial (fun hHeld => ?_)
      clear hK K
      try simp only [Act.put, List.getElem_toArray, List.getElem_cons_succ, List.getElem_cons_zero, List.setIfInBounds_toArray, List.set_cons_zero, List.set_cons_succ]
      refine wpAnyH_take (i := 11) (v := ?_) rfl (by kernel_rfl) (by kernel_rfl) (by kernel_rfl) (fun _ _ _ h => h) (Or.inl ⟨by rfl, ?_⟩) (by assumption) ?_
      rotate_left
      · intro w hSw; (try dsimp only at hSw); go_simp; try with_reducible rfl
      try simp only [Act.put, List.getElem_toArray, List.getElem_cons_succ, List.getElem_cons_zero, List.setIfInBounds_toArray, List.set_cons_zero, List.set_cons_succ]
      refine wpAnyH_take (i := 12) (v := ?_) rfl (by kernel_rfl) (by kernel_rfl) (by kernel_rfl) (fun _ _ _ h => h) (Or.inl ⟨by rfl, ?_⟩) (by assumption) ?_
      rotate_left
      · intro w hSw; (try dsimp only at hSw); go_simp; try with_reducible rfl
      try simp only [Act.put, List.getElem_toArray, List.getElem_cons_succ, List.getElem_cons_zero, List.setIfInBounds_toArray, List.set_cons_zero, List.set_cons_succ]
      refine wpAnyH_take (i := 13) rfl (by kernel_rfl) (by kernel_rfl) (by kernel_rfl) (fun _ _ _ h => h) (Or.inr ⟨by kernel_rfl, rfl⟩) (by assumption) ?_
      refine wpAnyH_take (i := 14) rfl (by kernel_rfl) (by kernel_rfl) (by kernel_rfl) (fun _ _ _ h => h) (Or.inr ⟨by kernel_rfl, rfl⟩) (by assumption) ?_
      refine wpAnyH_take (i := 15) rfl (by kernel_rfl) (by kernel_rfl) (by kernel_rfl) (fun _ _ _ h => h) (Or.inr ⟨by kernel_rfl, rfl⟩) (by assumption) ?_
      refine wpAnyH_take (i := 16) rfl (by kernel_rfl) (by kernel_rfl) (by kernel_rfl) (fun _ _ _ h => h) (Or.inr ⟨by kernel_rfl, rfl⟩) (by assumption) ?_
      refine wpAnyH_take (i := 17) rfl (by kernel_rfl) (by kernel_rfl) (by kernel_rfl) (fun _ _ _ h => h) (Or.inr ⟨by kernel_rfl, rfl⟩) (by assumption) ?_
      refine wpAnyH_take (i := 18) rfl (by kernel_rfl) (by kernel_rfl) (by kernel_rfl) (fun _ _ _ h => h) (Or.inr ⟨by kernel_rfl, rfl⟩) (by assumption) ?_
      refine wpAnyH_take (i := 19) rfl (by kernel_rfl) (by kernel_rfl) (by kernel_rfl) (fun _ _ _ h => h) (Or.inr ⟨by kernel_rfl, rfl⟩) (by assumption) ?_
      refine wpAnyH_take (i := 20) rfl (by kernel_rfl) (by kernel_rfl) (by kernel_rfl) (fun _ _ _ h => h) (Or.inr ⟨by kernel_rfl, rfl⟩) (by assumption) ?_
      refine wpAnyH_take (i := 21) rfl (by kernel_rfl) (by kernel_rfl) (by kernel_rfl) (fun _ _ _ h => h) (Or.inr ⟨by kernel_rfl, rfl⟩) (by assumption) ?_
      refine wpAnyH_take (i := 22) (v := ?_) rfl (by kernel_rfl) (by kernel_rfl) (by kernel_rfl) (fun _ _ _ h => h) (Or.inl ⟨by rfl, ?_⟩) (by assumption) ?_
      rotate_left
      · intro w hSw; (try dsimp only at hSw); go_simp; try with_reducible rfl
      try simp only [Act.put, List.getElem_toArray, List.getElem_cons_succ, List.getElem_cons_zero, List.setIfInBounds_toArray, List.set_cons_zero, List.set_cons_succ]
      refine wpAnyH_ready (rs := [23]) (by kernel_rfl) (by simp) ?_
      refine AllReadyH.cons rfl (fun K hK => ?_) AllReadyH.nil
      go_simp
      refine hK.out _ _ (by assumption) (fun hHeld => ?_)
      clear hK K
      try simp only [Act.put, List.getElem_toArray, List.getElem_cons_succ, List.getElem_cons_zero, List.setIfInBounds_toArray, List.set_cons_zero, List.set_cons_succ]
      refine wpAnyH_done (by kernel_rfl) ?_ _
      go_wp2
      go_ret
      exact ⟨by rw [HB.out]; rfl, HG.out.drew⟩
  · have rx : decide (0 ≤ x ∧ x ≤ (l.length : Int) - 1) = false := decide_eq_false hx
    have HB := hideIt (HTn.out fun h => hx h.1)
    clear HTy HTn
    go_enter Tryz.func21, Tryz.ntmps21
    go_wp2_with (go_at_call 23; refine HL.out.mono ?_; rintro e w1 ⟨a1, m1, c1, rfl, ho1, hb1⟩; refine Hid.out ?_)
    refine (show ∀ {p : Prop}, p → Hid p from fun h => h) ?_
    have hm : l.length = m1 := by have := ho1.1; rw [ic_len] at this; omega
    subst hm
    have hw1 : IntKind.i64.wrap ((l.length : Int) - 1) = (l.length : Int) - 1 := by rw [IntKind.wrap_i64]; omega
    have HG := hideIt (hfa.up hb1)
    clear ho1 hb1 HL
    have HIx : Hid (∀ u, Calls Tryz.prog 31 #[.int .i64 x, .int .i64 0, .int .i64 ((l.length : Int) - 1)] u fun e w' => e = .returned (.bool false) ∧ w' = u) := fun u => by
      have := HI.out x 0 ((l.length : Int) - 1) u
      rw [rx] at this
      exact this
    clear HI rx
    go_wp2
    refine wp_region_held_drew (S := (fun _ => True)) (by kernel_rfl) trivial (fun hHeld => ?_)
    refine wpAnyH_take (i := 0) (v := ?_) rfl (by kernel_rfl) (by kernel_rfl) (by kernel_rfl) (fun _ _ _ h => h) (Or.inl ⟨by rfl, ?_⟩) (by assumption) ?_
    rotate_left
    · intro w hSw; (try dsimp only at hSw); go_simp; try with_reducible rfl
    try simp only [Act.put, List.getElem_toArray, List.getElem_cons_zero, List.setIfInBounds_toArray, List.set_cons_zero, List.set_cons_succ]
    refine wpAnyH_take (i := 1) (v := ?_) rfl (by kernel_rfl) (by kernel_rfl) (by kernel_rfl) (fun _ _ _ h => h) (Or.inl ⟨by rfl, ?_⟩) (by assumption) ?_
    rotate_left
    · intro w hSw; (try dsimp only at hSw); go_simp; try with_reducible rfl
    try simp only [Act.put, List.getElem_toArray, List.getElem_cons_succ, List.getElem_cons_zero, List.setIfInBounds_toArray, List.set_cons_zero, List.set_cons_succ]
    refine wpAnyH_take (i := 2) (v := ?_) rfl (by kernel_rfl) (by kernel_rfl) (by kernel_rfl) (fun _ _ _ h => h) (Or.inl ⟨by rfl, ?_⟩) (by assumption) ?_
    rotate_left
    · intro w hSw; (try dsimp only at hSw); go_simp; try with_reducible rfl
    try simp only [Act.put, List.getElem_toArray, List.getElem_cons_succ, List.getElem_cons_zero, List.setIfInBounds_toArray, List.set_cons_zero, List.set_cons_succ]
    refine wpAnyH_take (i := 3) (v := ?_) rfl (by kernel_rfl) (by kernel_rfl) (by kernel_rfl) (fun _ _ _ h => h) (Or.inl ⟨by rfl, ?_⟩) (by assumption) ?_
    rotate_left
    · intro w hSw; (try dsimp only at hSw); go_simp; try with_reducible rfl
    try simp only [Act.put, List.getElem_toArray, List.getElem_cons_succ, List.getElem_cons_zero, List.setIfInBounds_toArray, List.set_cons_zero, List.set_cons_succ]
    refine wpAnyH_ready (rs := [4]) (by kernel_rfl) (by simp) ?_
    refine AllReadyH.cons rfl (fun K hK => ?_) AllReadyH.nil
    rw [if_pos (show Region.wanted _ _ = true by rfl)]
    go_wp2_with (go_at_call 31; refine (HIx.out _).mono ?_; rintro e w2 ⟨rfl, hw⟩; have hw' := hw.symm; subst hw'; clear hw; refine Hid.out ?_)
    refine (show ∀ {p : Prop}, p → Hid p from fun h => h) ?_
    refine hK.out _ _ trivial (fun hHeld => ?_)
    clear hK K
    try simp only [Act.put, List.getElem_toArray, List.getElem_cons_succ, List.getElem_cons_zero, List.setIfInBounds_toArray, List.set_cons_zero, List.set_cons_succ]
    refine wpAnyH_take (i := 5) (v := ?_) rfl (by kernel_rfl) (by kernel_rfl) (by kernel_rfl) (fun _ _ _ h => h) (Or.inl ⟨by rfl, ?_⟩) (by assumption) ?_
    rotate_left
    · intro w hSw; (try dsimp only at hSw); go_simp; try with_reducible rfl
    try simp only [Act.put, List.getElem_toArray, List.getElem_cons_succ, List.getElem_cons_zero, List.setIfInBounds_toArray, List.set_cons_zero, List.set_cons_succ]
    refine wpAnyH_take (i := 6) rfl (by kernel_rfl) (by kernel_rfl) (by kernel_rfl) (fun _ _ _ h => h) (Or.inr ⟨by kernel_rfl, rfl⟩) (by assumption) ?_
    refine wpAnyH_take (i := 7) rfl (by kernel_rfl) (by kernel_rfl) (by kernel_rfl) (fun _ _ _ h => h) (Or.inr ⟨by kernel_rfl, rfl⟩) (by assumption) ?_
    refine wpAnyH_take (i := 8) rfl (by kernel_rfl) (by kernel_rfl) (by kernel_rfl) (fun _ _ _ h => h) (Or.inr ⟨by kernel_rfl, rfl⟩) (by assumption) ?_
    refine wpAnyH_take (i := 9) rfl (by kernel_rfl) (by kernel_rfl) (by kernel_rfl) (fun _ _ _ h => h) (Or.inr ⟨by kernel_rfl, rfl⟩) (by assumption) ?_
    refine wpAnyH_take (i := 10) rfl (by kernel_rfl) (by kernel_rfl) (by kernel_rfl) (fun _ _ _ h => h) (Or.inr ⟨by kernel_rfl, rfl⟩) (by assumption) ?_
    refine wpAnyH_take (i := 11) (v := ?_) rfl (by kernel_rfl) (by kernel_rfl) (by kernel_rfl) (fun _ _ _ h => h) (Or.inl ⟨by rfl, ?_⟩) (by assumption) ?_
    rotate_left
    · intro w hSw; (try dsimp only at hSw); go_simp; try with_reducible rfl
    try simp only [Act.put, List.getElem_toArray, List.getElem_cons_succ, List.getElem_cons_zero, List.setIfInBounds_toArray, List.set_cons_zero, List.set_cons_succ]
    refine wpAnyH_take (i := 12) (v := ?_) rfl (by kernel_rfl) (by kernel_rfl) (by kernel_rfl) (fun _ _ _ h => h) (Or.inl ⟨by rfl, ?_⟩) (by assumption) ?_
    rotate_left
    · intro w hSw; (try dsimp only at hSw); go_simp; try with_reducible rfl
    try simp only [Act.put, List.getElem_toArray, List.getElem_cons_succ, List.getElem_cons_zero, List.setIfInBounds_toArray, List.set_cons_zero, List.set_cons_succ]
    refine wpAnyH_take (i := 13) rfl (by kernel_rfl) (by kernel_rfl) (by kernel_rfl) (fun _ _ _ h => h) (Or.inr ⟨by kernel_rfl, rfl⟩) (by assumption) ?_
    refine wpAnyH_take (i := 14) rfl (by kernel_rfl) (by kernel_rfl) (by kernel_rfl) (fun _ _ _ h => h) (Or.inr ⟨by kernel_rfl, rfl⟩) (by assumption) ?_
    refine wpAnyH_take (i := 15) rfl (by kernel_rfl) (by kernel_rfl) (by kernel_rfl) (fun _ _ _ h => h) (Or.inr ⟨by kernel_rfl, rfl⟩) (by assumption) ?_
    refine wpAnyH_take (i := 16) rfl (by kernel_rfl) (by kernel_rfl) (by kernel_rfl) (fun _ _ _ h => h) (Or.inr ⟨by kernel_rfl, rfl⟩) (by assumption) ?_
    refine wpAnyH_take (i := 17) rfl (by kernel_rfl) (by kernel_rfl) (by kernel_rfl) (fun _ _ _ h => h) (Or.inr ⟨by kernel_rfl, rfl⟩) (by assumption) ?_
    refine wpAnyH_take (i := 18) rfl (by kernel_rfl) (by kernel_rfl) (by kernel_rfl) (fun _ _ _ h => h) (Or.inr ⟨by kernel_rfl, rfl⟩) (by assumption) ?_
    refine wpAnyH_take (i := 19) rfl (by kernel_rfl) (by kernel_rfl) (by kernel_rfl) (fun _ _ _ h => h) (Or.inr ⟨by kernel_rfl, rfl⟩) (by assumption) ?_
    refine wpAnyH_take (i := 20) rfl (by kernel_rfl) (by kernel_rfl) (by kernel_rfl) (fun _ _ _ h => h) (Or.inr ⟨by kernel_rfl, rfl⟩) (by assumption) ?_
    refine wpAnyH_take (i := 21) rfl (by kernel_rfl) (by kernel_rfl) (by kernel_rfl) (fun _ _ _ h => h) (Or.inr ⟨by kernel_rfl, rfl⟩) (by assumption) ?_
    refine wpAnyH_take (i := 22) (v := ?_) rfl (by kernel_rfl) (by kernel_rfl) (by kernel_rfl) (fun _ _ _ h => h) (Or.inl ⟨by rfl, ?_⟩) (by assumption) ?_
    rotate_left
    · intro w hSw; (try dsimp only at hSw); go_simp; try with_reducible rfl
    try simp only [Act.put, List.getElem_toArray, List.getElem_cons_succ, List.getElem_cons_zero, List.setIfInBounds_toArray, List.set_cons_zero, List.set_cons_succ]
    refine wpAnyH_ready (rs := [23]) (by kernel_rfl) (by simp) ?_
    refine AllReadyH.cons rfl (fun K hK => ?_) AllReadyH.nil
    go_simp
    refine hK.out _ _ (by assumption) (fun hHeld => ?_)
    clear hK K
    try simp only [Act.put, List.getElem_toArray, List.getElem_cons_succ, List.getElem_cons_zero, List.setIfInBounds_toArray, List.set_cons_zero, List.set_cons_succ]
    refine wpAnyH_done (by kernel_rfl) ?_ _
    go_wp2
    go_ret
    exact ⟨by rw [HB.out]; rfl, HG.out.drew⟩
end Go.Proofs.YtgjngaaibcmgmabGreat
namespace Go.Proofs.YtgjngaaibcmgmabGreat
open Go.RowKit

set_option maxRecDepth 100000 in
set_option maxHeartbeats 4000000 in
theorem fnExactWebTogether.walk (N : Int) (_hN : (Lit.int .i64 N).wf = true) (ls : List Ld) (n : Nat) (a : Option Addr) (c : Nat) (hn : n ≤ maxLen) (x : Int) (_hx : (Lit.int .i64 x).wf = true) (y : Int) (_hy : (Lit.int .i64 y).wf = true) (w : World) (h : Ls w w.heap.size a n ls) :
    Calls Tryz.prog 6 #[.agg #[.int .i64 N, .slice a n c], .int .i64 x, .int .i64 y] w fun e w' => e = .returned (.bool true) ∧ Below w.heap.size w w' := by
  have b0 : Good w (w.alloc (.cells #[.int .i64 N, .slice a n c] 24)) := (Good.refl w).alloc _
  have HS := hideIt (szWeb_any N n a c hn (w.alloc (.cells #[.int .i64 N, .slice a n c] 24)))
  have HB0 := hideIt b0
  have HA := hideIt (h.up b0)
  have HC0 : Hid (∀ u, Good (w.alloc (.cells #[.int .i64 N, .slice a n c] 24)) u → u.cell? ⟨w.heap.size, 0, none⟩ = some (.int .i64 N) ∧ u.cell? ⟨w.heap.size, 1, none⟩ = some (.slice a n c)) := fun u hu => ⟨by rw [hu.cell (by simp)]; simp, by rw [hu.cell (by simp)]; simp⟩
  clear h b0
  by_cases g1 : n ≤ 1048576
  · have d1 : decide (szw n < 0) = false := decide_eq_false (by unfold szw; rw [if_pos g1]; omega)
    have HT := hideIt (fun u (hu : Good (w.alloc (.cells #[.int .i64 N, .slice a n c] 24)) u) => toWeb_any N ls n a c g1 u (HA.out.up hu))
    obtain ⟨r, HRs, HRi⟩ : ∃ r : Bool, Hid (∀ u g, Good (w.alloc (.cells #[.int .i64 N, .slice a n c] 24)) u → Ls u u.heap.size (some ⟨g, 0, none⟩) n ls → Calls Tryz.prog 21 #[.agg #[.int .i64 N, .slice (some ⟨g, 0, none⟩) n n], .int .i64 x, .int .i64 y] u fun e v => e = .returned (.bool r) ∧ Good u v) ∧ Hid (∀ u g, Good (w.alloc (.cells #[.int .i64 N, .slice a n c] 24)) u → Ls u u.heap.size (some ⟨g, 0, none⟩) n ls → Calls Tryz.prog 22 #[.agg #[.int .i64 N, .slice (some ⟨g, 0, none⟩) n n], .int .i64 x, .int .i64 y] u fun e v => e = .returned (.bool r) ∧ Good u v) :=
      ⟨tgB N ls x y, fun u g _ hT => sWebTogether_any N ls x y n _ n g1 u hT, fun u g _ hT => iWebTogether_any N ls x y n _ n g1 u hT⟩
    have dr : (r != r) = false := by simp
    generalize szw n = z at *
    go_enter Tryz.func6, Tryz.ntmps6
    go_wp2_with (go_at_call 8; refine HS.out.mono ?_; rintro e w2 ⟨rfl, hg2⟩; refine Hid.out ?_)
    refine (show ∀ {p : Prop}, p → Hid p from fun h => h) ?_
    have G2 : Good (w.alloc (.cells #[.int .i64 N, .slice a n c] 24)) w2 := hg2
    obtain ⟨k0, k1⟩ := HC0.out w2 G2
    have HT2 := hideIt (HT.out w2 G2)
    clear HS hg2
    go_wp2_with (go_at_call 10; refine HT2.out.mono ?_; rintro e w3 ⟨g3, rfl, F3, hb3⟩; refine Hid.out ?_)
    refine (show ∀ {p : Prop}, p → Hid p from fun h => h) ?_
    have G3 := G2.up hb3
    have HS3 := hideIt (HRs.out w3 g3 G3 (Ls_of_own F3))
    clear HT2 F3 hb3 k0 k1 G2
    go_wp2_with (go_at_call 21; refine HS3.out.mono ?_; rintro e w4 ⟨rfl, hg4⟩; refine Hid.out ?_)
    refine (show ∀ {p : Prop}, p → Hid p from fun h => h) ?_
    have G4 := G3.up hg4
    obtain ⟨k0, k1⟩ := HC0.out w4 G4
    have HT4 := hideIt (HT.out w4 G4)
    clear HS3 hg4 G3
    go_wp2_with (go_at_call 10; refine HT4.out.mono ?_; rintro e w5 ⟨g5, rfl, F5, hb5⟩; refine Hid.out ?_)
    refine (show ∀ {p : Prop}, p → Hid p from fun h => h) ?_
    have G5 := G4.up hb5
    have HX5 := hideIt (Ls_of_own F5)
    have bx : Good w5 (w5.alloc (.cells #[.int .i64 N, .slice (some ⟨g5, 0, none⟩) n n] 29)) := (Good.refl w5).alloc _
    have HI5 := hideIt (HRi.out _ g5 (G5.up bx) (HX5.out.up bx))
    have HB5 := hideIt bx
    clear HT4 F5 hb5 k0 k1 G4 bx
    go_wp2_with (go_at_call 22; refine HI5.out.mono ?_; rintro e w6 ⟨rfl, hg6⟩; refine Hid.out ?_)
    refine (show ∀ {p : Prop}, p → Hid p from fun h => h) ?_
    have G6 := hideIt (G5.up (HB5.out.up hg6))
    have X6 := hideIt (HX5.out.up (HB5.out.up hg6))
    have HC6 : Hid (∀ u, Good w6 u → (u.cell? ⟨w5.heap.size, 0, none⟩ = some (.int .i64 N) ∧ u.cell? ⟨w5.heap.size, 1, none⟩ = some (.slice (some ⟨g5, 0, none⟩) n n)) ∧ u.cell? ⟨w.heap.size, 0, none⟩ = some (.int .i64 N) ∧ u.cell? ⟨w.heap.size, 1, none⟩ = some (.slice a n c)) := fun u hu =>
      ⟨⟨by rw [Good.cell (Good.up hg6 hu) (by simp)]; simp, by rw [Good.cell (Good.up hg6 hu) (by simp)]; simp⟩, HC0.out u (G6.out.up hu)⟩
    have HT6 := hideIt (fun u (hu : Good w6 u) => (HT.out u (G6.out.up hu)).mono fun e v ⟨g7, he, F7, hb7⟩ => (show ∃ g, e = Ending.returned (.agg #[.int .i64 N, .slice (some ⟨g, 0, none⟩) n n]) ∧ Ls v v.heap.size (some ⟨g, 0, none⟩) n ls ∧ Good w6 v from ⟨g7, he, Ls_of_own F7, hu.up hb7⟩))
    have HE6 := hideIt (fun u g' (hu : Good w6 u) (hT : Ls u u.heap.size (some ⟨g', 0, none⟩) n ls) => (eqWeb_same N ls n _ _ n n g1 u (X6.out.up hu) hT).mono fun e v ⟨he, hb⟩ => (show e = Ending.returned (.bool true) ∧ Good w6 v from ⟨he, hu.up hb⟩))
    have S6 := (Good.refl w6).drew
    have hS6 := HC6.out _ S6
    clear HI5 hg6 G5 HB5 HX5
    go_wp2
    go_region_held3 (fun u => (u.cell? ⟨w5.heap.size, 0, none⟩ = some (.int .i64 N) ∧ u.cell? ⟨w5.heap.size, 1, none⟩ = some (.slice (some ⟨g5, 0, none⟩) n n)) ∧ u.cell? ⟨w.heap.size, 0, none⟩ = some (.int .i64 N) ∧ u.cell? ⟨w.heap.size, 1, none⟩ = some (.slice a n c))
      (first | assumption)
      (first
      | (go_at_call 10; refine (HT6.out _ S6).mono ?_; rintro e w7 ⟨g7, rfl, f7, S7⟩; have hS7 := HC6.out _ S7)
      | (go_at_call 12; refine (HE6.out _ g7 S7 f7).mono ?_; rintro e w8 ⟨rfl, S8⟩; have hS8 := HC6.out _ S8))
    go_wp2
    go_ret
    exact ⟨rfl, HB0.out.up (G6.out.up S8)⟩
  · have HV : Hid (szw n = -1) := by show _ = _; unfold szw; rw [if_neg g1]
    have d1 : decide (szw n < 0) = true := decide_eq_true (by have := HV.out; omega)
    generalize szw n = z at *
    go_enter Tryz.func6, Tryz.ntmps6
    go_wp2_with (go_at_call 8; refine HS.out.mono ?_; rintro e w2 ⟨rfl, hg2⟩)
    go_ret
    exact ⟨rfl, HB0.out.up hg2⟩
end Go.Proofs.YtgjngaaibcmgmabGreat
namespace Go.Proofs.YtgjngaaibcmgmabGreat
open Go.RowKit Go.ChangeShapes Go.WideShapes Go.ChangeAt

theorem two7 {α : Type} {l : List α} (h : l.length = 2) : ∃ a b, l = [a, b] := by
  match l, h with
  | [a, b], _ => exact ⟨a, b, rfl⟩
theorem four9 {α : Type} {l : List α} (h : l.length = 4) : ∃ a b c d, l = [a, b, c, d] := by
  match l, h with
  | [a, b, c, d], _ => exact ⟨a, b, c, d, rfl⟩
theorem open_ledge1 {H : Type} {enc : TypeId × Value → H} {W : World} {fuel : Nat} {cs : List Value} {y : DataW H × List MemPlace}
    (h : DataW.trod enc Tryz.prog W 0 (fun _ => true) true fuel 89 cs = some y) : ∃ x : Ld, cs = [.int .i64 x.a, .int .i64 x.b, .int .i64 x.l, .bool x.t] := by
  obtain ⟨xs, n, _, _, hl, hlen, hf⟩ := DataW.trod_struct Tryz.underlying89 h
  rw [show Tryz.prog.cellsOf 89 = 4 by kernel_rfl] at hl
  obtain ⟨c0, c1, c2, c3, rfl⟩ := four9 hl
  have h0 : DataW.trod enc Tryz.prog W 0 (fun _ => true) true n 3 (([c0, c1, c2, c3].drop 0).take (Tryz.prog.cellsOf 3)) = xs[0]? := hf 0 _ rfl
  have h1 : DataW.trod enc Tryz.prog W 0 (fun _ => true) true n 3 (([c0, c1, c2, c3].drop 1).take (Tryz.prog.cellsOf 3)) = xs[1]? := hf 1 _ rfl
  have h2 : DataW.trod enc Tryz.prog W 0 (fun _ => true) true n 3 (([c0, c1, c2, c3].drop 2).take (Tryz.prog.cellsOf 3)) = xs[2]? := hf 2 _ rfl
  have h3 : DataW.trod enc Tryz.prog W 0 (fun _ => true) true n 4 (([c0, c1, c2, c3].drop 3).take (Tryz.prog.cellsOf 4)) = xs[3]? := hf 3 _ rfl
  rw [show Tryz.prog.cellsOf 3 = 1 by kernel_rfl] at h0 h1 h2
  rw [show Tryz.prog.cellsOf 4 = 1 by kernel_rfl] at h3
  have g : ∀ i, i < 4 → ∃ z, xs[i]? = some z := fun i hi => ⟨xs[i]'(by simp at hlen; omega), List.getElem?_eq_getElem _⟩
  obtain ⟨z0, e0⟩ := g 0 (by omega)
  obtain ⟨z1, e1⟩ := g 1 (by omega)
  obtain ⟨z2, e2⟩ := g 2 (by omega)
  obtain ⟨z3, e3⟩ := g 3 (by omega)
  rw [e0] at h0
  rw [e1] at h1
  rw [e2] at h2
  rw [e3] at h3
  obtain ⟨k0, hk0, _⟩ := DataW.trod_int Tryz.underlying3 h0
  obtain ⟨k1, hk1, _⟩ := DataW.trod_int Tryz.underlying3 h1
  obtain ⟨k2, hk2, _⟩ := DataW.trod_int Tryz.underlying3 h2
  obtain ⟨k3, hk3, _⟩ := DataW.trod_bool Tryz.underlying4 h3
  simp at hk0 hk1 hk2 hk3
  subst hk0 hk1 hk2 hk3
  exact ⟨⟨k0, k1, k2, k3⟩, rfl⟩
theorem open_ledgeS {H : Type} {enc : TypeId × Value → H} {W : World} {a : Option Addr} {len cap fuel : Nat} {x : DataW H × List MemPlace}
    (h : DataW.trod enc Tryz.prog W 0 (fun _ => true) true fuel 22 [.slice a len cap] = some x) : len ≤ maxLen ∧ ∃ ls : List Ld, Ls W W.heap.size a len ls := by
  rcases DataW.trod_slice Tryz.underlying22 h with ⟨hcs, _⟩ | ⟨ad, l, c, elems, rest, n, _, hcs, _, _, hlc, hm, hel, hei, _, _⟩
  · simp at hcs
    obtain ⟨rfl, rfl, rfl⟩ := hcs
    exact ⟨by unfold maxLen; omega, [], ⟨rfl, .inl rfl⟩⟩
  · simp at hcs
    obtain ⟨rfl, rfl, rfl⟩ := hcs
    refine ⟨by omega, ?_⟩
    have each : ∀ i, i < len → ∃ x : Ld, W.cell? ((ad.add (i * 4)).add 0) = some (.int .i64 x.a) ∧ W.cell? ((ad.add (i * 4)).add 1) = some (.int .i64 x.b) ∧ W.cell? ((ad.add (i * 4)).add 2) = some (.int .i64 x.l) ∧ W.cell? ((ad.add (i * 4)).add 3) = some (.bool x.t) := by
      intro i hi
      have h1 := hei i hi
      obtain ⟨y, hy⟩ : ∃ y, elems[i]? = some y := ⟨elems[i]'(by omega), List.getElem?_eq_getElem _⟩
      rw [hy, Option.bind_eq_some_iff] at h1
      obtain ⟨cs', hc, ht⟩ := h1
      obtain ⟨x, rfl⟩ := open_ledge1 ht
      rw [show Tryz.prog.cellsOf 89 = 4 by kernel_rfl] at hc
      have hcell := (World.cells?_some hc).2.2
      exact ⟨x, by simpa using hcell 0 (by omega), by simpa using hcell 1 (by omega), by simpa using hcell 2 (by omega), by simpa using hcell 3 (by omega)⟩
    by_cases h0 : len = 0
    · subst h0
      exact ⟨[], ⟨rfl, .inl rfl⟩⟩
    · obtain ⟨f0, hc0, _⟩ := each 0 (by omega)
      obtain ⟨b, off, spot⟩ := ad
      have hspot : spot = none := by simpa [Addr.add] using World.cell?_spot hc0
      subst hspot
      have hb : b < W.heap.size := by
        have := World.block_lt_of_cell? W _ hc0
        simpa [Addr.add] using this
      obtain ⟨F, hF⟩ := Classical.axiomOfChoice (fun i : Fin len => each i.1 i.2)
      refine ⟨List.ofFn F, ⟨by simp, .inr ⟨b, off, rfl, hb, fun j f hf => ?_⟩⟩⟩
      obtain ⟨hj, rfl⟩ := List.getElem?_eq_some_iff.1 hf
      have hj' : j < len := by simpa using hj
      obtain ⟨c0, c1, c2, c3⟩ := hF ⟨j, hj'⟩
      rw [add_plain, add_plain] at c0 c1 c2 c3
      simp only [List.getElem_ofFn]
      exact ⟨c0, c1, c2, c3⟩
set_option maxRecDepth 100000 in
/-- a web that comes in -/
theorem open_web {H : Type} {enc : TypeId × Value → H} {W : World} {r : Reach} {base : Nat} {v : Value} {d : DataW H} {p : List MemPlace}
    (hv : Value.okWide Tryz.prog W r base 24 v) (h : DataW.Trod enc Tryz.prog W 0 (fun _ => true) true 24 v d p) :
    ∃ (N : Int) (a : Option Addr) (n c : Nat) (ls : List Ld), v = .agg #[.int .i64 N, .slice a n c] ∧ (Lit.int .i64 N).wf = true ∧ n ≤ maxLen ∧ Ls W W.heap.size a n ls := by
  obtain ⟨cs, rfl, hcs⟩ := okWide_struct Tryz.underlying24 hv
  obtain ⟨fuel, hf⟩ := h
  obtain ⟨xs, n, _, _, hl, hlen, hfi⟩ := DataW.trod_struct Tryz.underlying24 hf
  rw [show Tryz.prog.cellsOf 24 = 2 by kernel_rfl] at hcs hl
  obtain ⟨l⟩ := cs
  obtain ⟨c0, c1, rfl⟩ := two7 (by simpa using hcs : l.length = 2)
  have ec : (Value.agg (List.toArray [c0, c1])).cells.toList = [c0, c1] := by simp [Value.cells]
  rw [ec] at hfi
  have h0 : DataW.trod enc Tryz.prog W 0 (fun _ => true) true n 3 (([c0, c1].drop 0).take (Tryz.prog.cellsOf 3)) = xs[0]? := hfi 0 _ rfl
  have h1 : DataW.trod enc Tryz.prog W 0 (fun _ => true) true n 22 (([c0, c1].drop 1).take (Tryz.prog.cellsOf 22)) = xs[1]? := hfi 1 _ rfl
  rw [show Tryz.prog.cellsOf 3 = 1 by kernel_rfl] at h0
  rw [show Tryz.prog.cellsOf 22 = 1 by kernel_rfl] at h1
  have g : ∀ i, i < 2 → ∃ z, xs[i]? = some z := fun i hi => ⟨xs[i]'(by simp at hlen; omega), List.getElem?_eq_getElem _⟩
  obtain ⟨z0, e0⟩ := g 0 (by omega)
  obtain ⟨z1, e1⟩ := g 1 (by omega)
  rw [e0] at h0
  rw [e1] at h1
  obtain ⟨k0, hk0, _, w0⟩ := DataW.trod_int Tryz.underlying3 h0
  simp at hk0
  subst hk0
  have h1' : DataW.trod enc Tryz.prog W 0 (fun _ => true) true n 22 [c1] = some z1 := by simpa using h1
  rcases DataW.trod_slice Tryz.underlying22 h1' with ⟨hx, _⟩ | ⟨ad, l, c, _, _, _, _, hx, _⟩
  · simp at hx
    subst hx
    obtain ⟨q1, fs, q2⟩ := open_ledgeS h1'
    exact ⟨k0, _, _, _, fs, rfl, w0, q1, q2⟩
  · simp at hx
    subst hx
    obtain ⟨q1, fs, q2⟩ := open_ledgeS h1'
    exact ⟨k0, _, _, _, fs, rfl, w0, q1, q2⟩
theorem open_edge1 {H : Type} {enc : TypeId × Value → H} {W : World} {fuel : Nat} {cs : List Value} {y : DataW H × List MemPlace}
    (h : DataW.trod enc Tryz.prog W 0 (fun _ => true) true fuel 34 cs = some y) : ∃ f : Int × Int, cs = [.int .i64 f.1, .int .i64 f.2] ∧ ((Lit.int .i64 f.1).wf = true ∧ (Lit.int .i64 f.2).wf = true) := by
  obtain ⟨xs, n, _, _, hl, hlen, hf⟩ := DataW.trod_struct Tryz.underlying34 h
  rw [show Tryz.prog.cellsOf 34 = 2 by kernel_rfl] at hl
  obtain ⟨c0, c1, rfl⟩ := two7 hl
  have h0 : DataW.trod enc Tryz.prog W 0 (fun _ => true) true n 3 (([c0, c1].drop 0).take (Tryz.prog.cellsOf 3)) = xs[0]? := hf 0 _ rfl
  have h1 : DataW.trod enc Tryz.prog W 0 (fun _ => true) true n 3 (([c0, c1].drop 1).take (Tryz.prog.cellsOf 3)) = xs[1]? := hf 1 _ rfl
  rw [show Tryz.prog.cellsOf 3 = 1 by kernel_rfl] at h0 h1
  have g : ∀ i, i < 2 → ∃ z, xs[i]? = some z := fun i hi => ⟨xs[i]'(by simp at hlen; omega), List.getElem?_eq_getElem _⟩
  obtain ⟨z0, e0⟩ := g 0 (by omega)
  obtain ⟨z1, e1⟩ := g 1 (by omega)
  rw [e0] at h0
  rw [e1] at h1
  obtain ⟨k0, hk0, _, w0⟩ := DataW.trod_int Tryz.underlying3 h0
  obtain ⟨k1, hk1, _, w1⟩ := DataW.trod_int Tryz.underlying3 h1
  simp at hk0 hk1
  subst hk0 hk1
  exact ⟨⟨k0, k1⟩, rfl, w0, w1⟩
set_option maxRecDepth 100000 in
/-- an edge that comes in -/
theorem open_edge {H : Type} {enc : TypeId × Value → H} {W : World} {r : Reach} {base : Nat} {v : Value} {d : DataW H} {p : List MemPlace}
    (hv : Value.okWide Tryz.prog W r base 34 v) (h : DataW.Trod enc Tryz.prog W 0 (fun _ => true) true 34 v d p) :
    ∃ f : Int × Int, v = .agg #[.int .i64 f.1, .int .i64 f.2] ∧ ((Lit.int .i64 f.1).wf = true ∧ (Lit.int .i64 f.2).wf = true) := by
  obtain ⟨cs, rfl, hcs⟩ := okWide_struct Tryz.underlying34 hv
  obtain ⟨fuel, hf⟩ := h
  obtain ⟨f, hcs2, hft⟩ := open_edge1 hf
  refine ⟨f, ?_, hft⟩
  have : (Value.agg cs).cells.toList = [.int .i64 f.1, .int .i64 f.2] := hcs2
  obtain ⟨l⟩ := cs
  simp [Value.cells] at this
  rw [this]
end Go.Proofs.YtgjngaaibcmgmabGreat
