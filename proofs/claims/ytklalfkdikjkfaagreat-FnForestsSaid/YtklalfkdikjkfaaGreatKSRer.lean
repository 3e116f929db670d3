/- The specification's ForestNew. A new forest is right: pure. The specification's TreeOf and SizeOf. How long a list is to which an edge was put. The specification's EdgesOf. The specification's Reroot. -/
import Derived.Test.YtklalfkdikjkfaaGreatKNew7
import Derived.Test.YtklalfkdikjkfaaGreatKBx7
import Derived.Test.YtklalfkdikjkfaaGreatKLc7
import Derived.Test.YtklalfkdikjkfaaGreatKCmp6
import Derived.Test.YtklalfkdikjkfaaGreatKSplit
namespace Go.Proofs.YtklalfkdikjkfaaGreat
open Go.RowKit

/-- tours in the making, behind a forest's box in block b -/
structure NSt (w9 : World) (N : Int) (a : Option Addr) (m c : Nat) (R : List Rw) (u : World) : Prop where
  box : Box7 u w9.heap.size 26 (.int .i64 N) (.slice a m c)
  fb : FB u (w9.heap.size + 1) u.heap.size a m c R
  bel : Below w9.heap.size w9 u
theorem newsS (w : World) (x : Value) : ∀ j u, ([x] : List Value)[j]? = some u → (w.alloc (.cells #[x] 39)).cell? ((⟨w.heap.size, 0, none⟩ : Addr).add j) = some u := by
  intro j u hj
  rcases j with _ | j
  · simp at hj; subst hj; simp [Addr.add]
  · simp at hj

set_option maxHeartbeats 2000000 in
theorem sForestNew_any (n : Int) (w : World) : Calls Tryz.prog 96 #[.int .i64 n] w fun e w' => FAns w n (newO n) e w' := by
  have HI := hideIt l01In_any
  have W1 := Box7.new w 26 (.int .i64 0) (.slice none 0 0) _ rfl
  by_cases h1 : 1 ≤ n ∧ n ≤ 12
  · obtain ⟨N, rfl⟩ : ∃ N : Nat, n = (N : Int) := ⟨n.toNat, by omega⟩
    have r1 : decide (1 ≤ (N : Int) ∧ (N : Int) ≤ 12) = true := decide_eq_true h1
    have HO := hideIt (newO_yes (n := N) (by omega) (by omega))
    obtain ⟨i0, hi, hz0, hz1, hz2⟩ := info_parts infoIT
    have N0 : NSt (w.alloc (.cells #[.int .i64 0, .slice none 0 0] 26)) (N : Int) none 0 0 [] ((w.alloc (.cells #[.int .i64 0, .slice none 0 0] 26)).alloc (.cells #[.int .i64 (N : Int), .slice none 0 0] 26)) := ⟨Box7.new _ _ _ _ _ rfl, FB.nil _ _, (Below.refl _ _).alloc (Nat.le_refl _) _⟩
    obtain ⟨V, hV⟩ : ∃ V, V = w.alloc (.cells #[.int .i64 0, .slice none 0 0] 26) := ⟨_, rfl⟩
    have hVs : V.heap.size = w.heap.size + 1 := by rw [hV]; simp
    have gV : Good w V := by rw [hV]; exact (Good.refl w).alloc _
    rw [← hV] at W1
    have hN12 : N ≤ 12 := by omega
    clear h1
    go_enter Tryz.func96, Tryz.ntmps96
    go_wp2_with (go_at_call 64; refine (HI.out _ _ _ _).mono ?_; rintro e w1 ⟨rfl, rfl⟩)
    go_loopw [5] (fun i wr => ∃ (k c1 : Nat) (a1 : Option Addr) (R : List Rw), k ≤ N ∧ i = .int .i64 (k : Int) ∧ Hid (rts R = newT k) ∧ NSt V (N : Int) a1 k c1 R wr) (fun i _ => N - (intOf i).toNat)
    case atStart => exact ⟨0, 0, none, [], by omega, rfl, by show _ = _; rfl, by rw [hV]; exact N0⟩
    case round =>
      obtain ⟨k, c1, a1, R, hk, rfl, HR, hst⟩ := hrel
      clear N0 hV
      have hbx := hst.box
      rw [hVs] at hbx
      by_cases hlt : k < N
      · have b1 : (0 : Int) ≤ (k : Int) := by omega
        have b2 : (k : Int) < (N : Int) := by omega
        have hb : Below wr.heap.size wr (wr.alloc (.cells #[.int .i64 (k : Int)] 3)) := (Below.refl _ _).alloc (Nat.le_refl _) _
        have c0 := hbx.cell1
        have HF := hideIt (hst.fb.keep hb)
        have HRw := hideIt (row_new wr (k : Int))
        have HST := hideIt hst
        have hsz := hbx.lt
        have HFr : Hid (∀ x ∈ R, x.g ≠ wr.heap.size) := fun x hx e => by have := (hst.fb.ins x hx).2.2; omega
        have HR2 : Hid (rts (R ++ [⟨wr.heap.size, 1, [(k : Int)]⟩]) = newT (k + 1)) := by show _ = _; rw [rts_snoc, HR.out, newT_succ]
        have HBx := hideIt (hbx.alloc (.cells #[.int .i64 (k : Int)] 3))
        have hFo := HF.out.own
        rw [hVs] at hFo
        have HFo := hideIt hFo
        clear hb hst hbx HR hFo
        go_wp2_with (at_builtin; refine wpList_append_lies _ rfl _ _ 24 rfl (w.heap.size + 1 + 1) 39 i0 _ 1 24 Tryz.underlying24 hi hz0 hz1 hz2 rfl (by decide) _ _ _ rfl (HFo.out.alloc _) ⟨wr.heap.size + 1, 0, none⟩ 1 1 [.slice (some ⟨wr.heap.size, 0, none⟩) 1 1] rfl rfl (by have := newsS (wr.alloc (.cells #[.int .i64 (k : Int)] 3)) (.slice (some ⟨wr.heap.size, 0, none⟩) 1 1); simpa using this) (by intro y hy; simp at hy; subst hy; rfl) (by omega) (by unfold maxLen; omega) (by omega) (by simp; omega) (wr.heap.size + 1 + 1) (by simp) ?_)
        intro g5 c5 w5 hown5 hg5 hG5 _
        rw [← hVs] at hown5
        obtain ⟨a7, c7, e7, F7⟩ := HF.out.app (r := ⟨wr.heap.size, 1, [(k : Int)]⟩) HRw.out (by show V.heap.size + 1 ≤ wr.heap.size; omega) HFr.out hown5 hg5
        simp at e7
        obtain ⟨rfl, rfl⟩ := e7
        have bx5 := (HBx.out.alloc (.cells #[.slice (some ⟨wr.heap.size, 0, none⟩) 1 1] 39)).grown hg5 (fun e => by have := (HF.out.own.lt _ e.symm).1; omega)
        have c5' := bx5.cell1
        have f5 := bx5.frozen 1
        have bx6 := bx5.set1 (.slice (some ⟨g5, 0, none⟩) (k + 1) c5)
        have F8 := (F7.setLow (x := w.heap.size + 1) (by omega) 1 (.slice (some ⟨g5, 0, none⟩) (k + 1) c5)).hi (by simp [World.setCell]) (Nat.le_refl _)
        have B8 : Below V.heap.size V (w5.setCell ⟨w.heap.size + 1, 1, none⟩ (.slice (some ⟨g5, 0, none⟩) (k + 1) c5)) := by
          have h1 := (HST.out.bel.alloc HST.out.bel.size (.cells #[.int .i64 (k : Int)] 3)).alloc (by have := HST.out.bel.size; simp; omega) (.cells #[.slice (some ⟨wr.heap.size, 0, none⟩) 1 1] 39)
          have h2 := h1.grown hg5 (by simp; omega) (fun j hj => by have := (HF.out.own.lt j hj).1; omega)
          exact h2.setCell (p := ⟨w.heap.size + 1, 1, none⟩) (by show V.heap.size ≤ w.heap.size + 1; omega) _
        have HN8 : Hid (NSt V (N : Int) (some ⟨g5, 0, none⟩) (k + 1) c5 (R ++ [⟨wr.heap.size, 1, [(k : Int)]⟩]) (w5.setCell ⟨w.heap.size + 1, 1, none⟩ (.slice (some ⟨g5, 0, none⟩) (k + 1) c5))) := ⟨by rw [hVs]; exact bx6, F8, B8⟩
        clear hown5 hg5 hG5 F7 F8 B8 bx5 bx6 HF HFo HBx HST
        go_wp2
        exact ⟨⟨k + 1, c5, some ⟨g5, 0, none⟩, _, by omega, by go_num, HR2, HN8.out⟩, by simp [intOf]; omega⟩
      · obtain rfl : k = N := by omega
        have q0 := hbx.cell0
        have q1 := hbx.cell1
        have bx := W1.up hst.bel
        have c0 := bx.cell0
        have c1' := bx.cell1
        have f0 := bx.frozen 0
        have f1 := bx.frozen 1
        have hF := hst.fb
        have HF5 := hideIt ((hF.setLow (x := w.heap.size) (by omega) 0 (.int .i64 (k : Int))).setLow (x := w.heap.size) (by omega) 1 (.slice a1 k c1))
        have HB5 : Hid (Below w.heap.size w ((wr.setCell ⟨w.heap.size, 0, none⟩ (.int .i64 (k : Int))).setCell ⟨w.heap.size, 1, none⟩ (.slice a1 k c1))) := ((gV.up hst.bel).setCell (p := ⟨w.heap.size, 0, none⟩) (Nat.le_refl _) _).setCell (p := ⟨w.heap.size, 1, none⟩) (Nat.le_refl _) _
        clear hst hbx bx hF
        go_wp2
        exact bodyPost_ret (v := .tuple #[.agg #[.int .i64 (k : Int), .slice a1 k c1], .bool true]) (by simp [results, Tryz.results96, go_sem, c0, c1']) rfl ⟨_, k, c1, R, by rw [HO.out]; rfl, (HF5.out.lo (by omega)).hi (by simp [World.setCell]) (by simp [World.setCell]), by rw [HO.out, HR.out]; rfl, HB5.out⟩
  · have r1 : decide (1 ≤ n ∧ n ≤ 12) = false := decide_eq_false h1
    have HO := hideIt (newO_no h1)
    have HB : Hid (Below w.heap.size w (((w.alloc (.cells #[.int .i64 0, .slice none 0 0] 26)).alloc (.cells #[.int .i64 n, .slice none 0 0] 26)))) := ((Below.refl _ w).alloc (Nat.le_refl _) _).alloc (by simp) _
    have HB2 : Hid (Below w.heap.size w ((((w.alloc (.cells #[.int .i64 0, .slice none 0 0] 26)).alloc (.cells #[.int .i64 n, .slice none 0 0] 26)).setCell ⟨w.heap.size, 0, none⟩ (.int .i64 0)).setCell ⟨w.heap.size, 1, none⟩ (.slice none 0 0))) := ((HB.out).setCell (p := ⟨w.heap.size, 0, none⟩) (Nat.le_refl _) _).setCell (p := ⟨w.heap.size, 1, none⟩) (Nat.le_refl _) _
    clear h1 W1
    go_enter Tryz.func96, Tryz.ntmps96
    go_wp2_with (go_at_call 64; refine (HI.out _ _ _ _).mono ?_; rintro e w1 ⟨rfl, rfl⟩)
    refine bodyPost_ret (v := .tuple #[.agg #[.int .i64 0, .slice none 0 0], .bool false]) (by simp [results, Tryz.results96, go_sem]) rfl (fans_no HO.out ?_)
    first | exact HB.out | exact HB2.out
end Go.Proofs.YtklalfkdikjkfaaGreat
namespace Go.Proofs.YtklalfkdikjkfaaGreat
open Go.RowKit

theorem tB_one {v : Int} (h0 : 0 ≤ v) (h1 : v < 12) : tB [v] = true := by
  rw [tB_iff]
  refine ⟨fun x hx => ?_, v, [v], ?_⟩
  · simp at hx
    subst hx
    unfold vB
    exact decide_eq_true ⟨h0, h1⟩
  · have hu : isUp [] v = false := rfl
    simp [trun, tstep, hu]
theorem vs_one {v : Int} (h0 : 0 ≤ v) (h1 : v < 12) : vsL [v] = [v] := asc_ext (vsK_asc [v] 12) (by simp) fun x => by
  show x ∈ vsL [v] ↔ _
  rw [vsL_mem]
  constructor
  · exact fun h => h.2
  · intro h
    refine ⟨?_, h⟩
    simp at h
    subst h
    unfold vB
    exact decide_eq_true ⟨h0, h1⟩
theorem mn_one {v : Int} (h0 : 0 ≤ v) (h1 : v < 12) : mnV [v] = v := by unfold mnV; rw [vs_one h0 h1]; rfl
theorem newT_mem {n : Nat} {t : List Int} (h : t ∈ newT n) : ∃ j, j < n ∧ t = [((j : Nat) : Int)] := by
  simp only [newT, List.mem_map, List.mem_range] at h
  obtain ⟨j, hj, rfl⟩ := h
  exact ⟨j, hj, rfl⟩
theorem newT_fp {n : Nat} (h1 : 1 ≤ n) (h2 : n ≤ 12) : FP (n : Int) (newT n) := by
  refine (FP_iff _ _).2 ⟨by omega, by omega, ⟨fun t ht => ?_, ?_, ?_⟩, ?_⟩
  · obtain ⟨j, hj, rfl⟩ := newT_mem ht
    exact ⟨tB_one (by omega) (by omega), fun x hx => by simp at hx; omega⟩
  · unfold newT
    rw [List.pairwise_map]
    refine List.Pairwise.imp (fun h => ?_) (List.pairwise_lt_range (n := n))
    intro x hx hx2
    simp at hx hx2
    omega
  · have h : ∀ k, k ≤ 12 → cnt (newT k) = k := fun k => by
      induction k with
      | zero => intro _; simp [newT, cnt]
      | succ k ih =>
        intro hk
        have := ih (by omega)
        unfold cnt at this ⊢
        rw [newT_succ, List.map_append, List.sum_append, this]
        simp [vs_one (v := (k : Int)) (by omega) (by omega)]
    rw [h n h2]
  · rw [List.pairwise_iff_getElem]
    intro i j hi hj hij
    have l := newT_len n
    have e1 := (List.getElem?_eq_some_iff.1 (newT_at (n := n) (k := i) (by omega))).2
    have e2 := (List.getElem?_eq_some_iff.1 (newT_at (n := n) (k := j) (by omega))).2
    rw [e1, e2, mn_one (by omega) (by omega), mn_one (by omega) (by omega)]
    omega
theorem newT_tree {n k : Nat} (h1 : 1 ≤ n) (h2 : n ≤ 12) (hk : k < n) : treeO (n : Int) (newT n) (k : Int) = (k : Int) := by
  have hP := newT_fp h1 h2
  rw [treeO_yes hP]
  exact trI_of hP.q (newT_at hk) (by simp)
theorem newT_size {n k : Nat} (h1 : 1 ≤ n) (h2 : n ≤ 12) (hk : k < n) : sizeO (n : Int) (newT n) (k : Int) = 1 := by
  rw [sizeO_yes (newT_tree h1 h2 hk) (newT_at hk), vs_one (by omega) (by omega)]
  rfl
theorem newT_edges {n : Nat} (h1 : 1 ≤ n) (h2 : n ≤ 12) : edgesO (n : Int) (newT n) = [] := by
  rw [edgesO_yes (newT_fp h1 h2)]
  have h : allU (newT n) = [] := by
    unfold allU
    rw [List.flatMap_eq_nil_iff]
    intro t ht
    obtain ⟨j, _, rfl⟩ := newT_mem ht
    rfl
  rw [h]
  simp [srtE]
end Go.Proofs.YtklalfkdikjkfaaGreat
namespace Go.Proofs.YtklalfkdikjkfaaGreat
open Go.RowKit

theorem sForestOk_yes {N : Int} {ts : List (List Int)} (hP : FP N ts) {n : Nat} {a : Option Addr} (c : Nat) (hn : n + lnS ts ≤ 1048576) {w : World} (h : Ts w w.heap.size a n ts) :
    Calls Tryz.prog 19 #[.agg #[.int .i64 N, .slice a n c]] w fun e w' => e = .returned (.bool true) ∧ Good w w' :=
  (sForestOk_any N ts n a c hn w h).mono fun e u ⟨b, he, hb, hbl⟩ => ⟨by rw [he, hb.2 hP], hbl⟩
theorem sForestOk_no {N : Int} {ts : List (List Int)} (hP : ¬ FP N ts) {n : Nat} {a : Option Addr} (c : Nat) (hn : n + lnS ts ≤ 1048576) {w : World} (h : Ts w w.heap.size a n ts) :
    Calls Tryz.prog 19 #[.agg #[.int .i64 N, .slice a n c]] w fun e w' => e = .returned (.bool false) ∧ Good w w' :=
  (sForestOk_any N ts n a c hn w h).mono fun e u ⟨b, he, hb, hbl⟩ => ⟨by
      have : b = false := by
        cases b with
        | false => rfl
        | true => exact absurd (hb.1 rfl) hP
      rw [he, this], hbl⟩

set_option maxHeartbeats 1000000 in
theorem sTreeOf_any (N : Int) (ts : List (List Int)) (v : Int) (n : Nat) (a : Option Addr) (c : Nat) (hn : n + lnS ts ≤ 1048576) (w : World) (h : Ts w w.heap.size a n ts) :
    Calls Tryz.prog 84 #[.agg #[.int .i64 N, .slice a n c], .int .i64 v] w fun e w' => e = .returned (.int .i64 (treeO N ts v)) ∧ Below w.heap.size w w' := by
  have b0 : Good w (w.alloc (.cells #[.int .i64 N, .slice a n c] 26)) := (Good.refl w).alloc _
  have HB0 := hideIt b0
  have HC0 : Hid (∀ u, Good (w.alloc (.cells #[.int .i64 N, .slice a n c] 26)) u → u.cell? ⟨w.heap.size, 1, none⟩ = some (.slice a n c)) := fun u hu => by rw [hu.cell (by simp)]; simp
  by_cases hP : FP N ts
  · have HF2 := hideIt (sForestOk_yes hP c hn (h.up b0))
    have HA := hideIt (h.up b0)
    have HV := hideIt (treeO_yes hP v)
    have hlen := h.1
    clear h b0 hP
    go_enter Tryz.func84, Tryz.ntmps84
    go_wp2_with (go_at_call 19; refine HF2.out.mono ?_; rintro e w1 ⟨rfl, hg1⟩; refine Hid.out ?_)
    refine (show ∀ {p : Prop}, p → Hid p from fun h => h) ?_
    have HG1 := hideIt hg1
    clear HF2 hg1
    go_wp2
    go_loopw [5] (fun i wr => ∃ k : Nat, k ≤ n ∧ i = .int .i64 (k : Int) ∧ Hid (∀ j, j < k → trP ts v j = false) ∧ wr = w1) (fun i _ => n - (intOf i).toNat)
    case atStart => exact ⟨0, by omega, rfl, fun j hj => by omega, rfl⟩
    case round =>
      obtain ⟨k, hk, rfl, HK, hw⟩ := hrel
      have hw' := hw.symm
      subst hw'
      clear hw
      have k1 := HC0.out _ HG1.out
      by_cases hlt : k < n
      · rcases (HA.out.up HG1.out).2 with hz | ⟨bb, off, rfl, hbl, hc⟩
        · omega
        · obtain ⟨t, ht⟩ : ∃ t, ts[k]? = some t := ⟨ts[k]'(by omega), List.getElem?_eq_getElem (by omega)⟩
          obtain ⟨x, cx, e0, iI, _⟩ := hc k t ht
          have b1 : (0 : Int) ≤ (k : Int) := by omega
          have b2 : (k : Int) < (n : Int) := by omega
          have HC := hideIt (l05In_any t v t.length x cx (by have := lnS_mem (List.mem_of_getElem? ht); omega) w1 iI)
          rw [← trP_at (v := v) ht] at HC
          cases hp : trP ts v k with
          | true =>
            rw [hp] at HC
            have HV2 : Hid (trI ts v = (k : Int)) := firstN_yes (by omega) hp HK.out
            clear hc ht iI hp HK
            go_wp2_with (go_at_call 66; refine HC.out.mono ?_; rintro e w2 ⟨rfl, hw⟩; have hw' := hw.symm; subst hw'; clear hw)
            go_ret
            exact ⟨by rw [HV.out, HV2.out]; rfl, HB0.out.up HG1.out⟩
          | false =>
            rw [hp] at HC
            have HK2 : Hid (∀ j, j < k + 1 → trP ts v j = false) := fun j hj => by
              by_cases h7 : j = k
              · rw [h7]; exact hp
              · exact HK.out j (by omega)
            clear hc ht iI hp HK
            go_wp2_with (go_at_call 66; refine HC.out.mono ?_; rintro e w2 ⟨rfl, hw⟩; have hw' := hw.symm; subst hw'; clear hw)
            exact ⟨⟨k + 1, by omega, by go_num, HK2, by first | trivial | rfl⟩, by simp [intOf]; omega⟩
      · obtain rfl : k = n := by omega
        have HV2 : Hid (trI ts v = -1) := firstN_no (fun j hj => HK.out j (by omega))
        clear HK
        go_wp2
        go_ret
        exact ⟨by rw [HV.out, HV2.out]; rfl, HB0.out.up HG1.out⟩
  · have HF2 := hideIt (sForestOk_no hP c hn (h.up b0))
    have HV := hideIt (treeO_no hP v)
    clear h b0 hP
    go_enter Tryz.func84, Tryz.ntmps84
    go_wp2_with (go_at_call 19; refine HF2.out.mono ?_; rintro e w1 ⟨rfl, hg1⟩)
    go_ret
    exact ⟨by rw [HV.out]; rfl, HB0.out.up hg1⟩

end Go.Proofs.YtklalfkdikjkfaaGreat
namespace Go.Proofs.YtklalfkdikjkfaaGreat
open Go.RowKit

theorem len_two {p q : EdgeV → Bool} (hpq : ∀ d, p d = true → q d = false) (es : List EdgeV) : (es.filter p).length + (es.filter q).length ≤ es.length := by
  induction es with
  | nil => simp
  | cons d es ih =>
    simp only [List.filter_cons]
    cases hp : p d with
    | true => rw [hpq d hp]; simp; omega
    | false => cases hq : q d <;> simp <;> omega

theorem put_len (es : List EdgeV) (e : EdgeV) : (putE es e).length ≤ es.length + 1 := by
  have h := len_two (p := fun d => lt d e) (q := fun d => lt e d) (fun d hd => lt_asymm' hd) es
  unfold putE
  simp only [List.length_append, List.length_cons, List.length_nil]
  omega

end Go.Proofs.YtklalfkdikjkfaaGreat
namespace Go.Proofs.YtklalfkdikjkfaaGreat
open Go.RowKit

/-- edges put in one by one: nothing of wb has turned -/
structure VSt (wb : World) (a : Option Addr) (m c : Nat) (es : List EdgeV) (u : World) : Prop where
  own : u.ownsRow wb.heap.size 28 2 (.slice a m c) m (ecells es)
  bel : Below wb.heap.size wb u
theorem VSt.len {wb : World} {a : Option Addr} {m c : Nat} {es : List EdgeV} {u : World} (h : VSt wb a m c es u) : es.length = m := by have := h.own.1; rw [ecells_length] at this; omega
theorem VSt.up {wb : World} {a : Option Addr} {m c : Nat} {es : List EdgeV} {u v : World} (h : VSt wb a m c es u) (hb : Below u.heap.size u v) : VSt wb a m c es v := ⟨own_up h.own hb, h.bel.trans (hb.mono h.bel.size)⟩
theorem VSt.start (wb : World) : VSt wb (some ⟨wb.heap.size, 0, none⟩) 0 0 [] (wb.alloc (.cells #[] 28)) := by
  refine ⟨?_, (Below.refl _ _).alloc (Nat.le_refl _) _⟩
  have h0 := World.ownsRow_lit (base := wb.heap.size) (e := 28) (size := 2) wb #[] 0 (Nat.le_refl _) (by unfold maxLen; omega) (by simp)
  simpa [ecells] using h0
set_option maxRecDepth 100000 in
set_option maxHeartbeats 4000000 in
theorem sEdgesOf_any (N : Int) (ts : List (List Int)) (n : Nat) (a : Option Addr) (c : Nat) (hn : n + lnS ts ≤ 1048576) (w : World) (h : Ts w w.heap.size a n ts) :
    Calls Tryz.prog 97 #[.agg #[.int .i64 N, .slice a n c]] w fun e w' => ∃ a' m' c', e = .returned (.slice a' m' c') ∧ w'.ownsRow w.heap.size 28 2 (.slice a' m' c') m' (ecells (edgesO N ts)) ∧ Below w.heap.size w w' := by
  have b0 : Good w (w.alloc (.cells #[.int .i64 N, .slice a n c] 26)) := (Good.refl w).alloc _
  have S0 := VSt.start (w.alloc (.cells #[.int .i64 N, .slice a n c] 26))
  have b1 : Good w ((w.alloc (.cells #[.int .i64 N, .slice a n c] 26)).alloc (.cells #[] 28)) := b0.alloc _
  have HB0 := hideIt b0
  have hlen := h.1
  have HC0 : Hid (∀ u, Below (w.alloc (.cells #[.int .i64 N, .slice a n c] 26)).heap.size (w.alloc (.cells #[.int .i64 N, .slice a n c] 26)) u → u.cell? ⟨w.heap.size, 0, none⟩ = some (.int .i64 N) ∧ u.cell? ⟨w.heap.size, 1, none⟩ = some (.slice a n c)) := fun u hu => ⟨by rw [hu.cell (by simp)]; simp, by rw [hu.cell (by simp)]; simp⟩
  obtain ⟨k0, k1⟩ := HC0.out _ S0.bel
  rw [show (w.alloc (.cells #[.int .i64 N, .slice a n c] 26)).heap.size = w.heap.size + 1 by simp] at S0
  have HS0 := hideIt S0
  by_cases hP : FP N ts
  · have HF2 := hideIt (sForestOk_yes hP c hn (h.up b1))
    have HA := hideIt (h.up b0)
    have HV : Hid (edgesO N ts = putF [] (allU ts)) := by show _ = _; rw [edgesO_yes hP, putF_srt (allU_nodup hP.q)]
    have hn12 : n ≤ 12 := by have := hP.2.2.1; omega
    have HBt : Hid (∀ t ∈ ts, tB t = true) := fun t ht => (hP.q.1 t ht).1
    clear h b0 b1 hP S0
    go_enter Tryz.func97, Tryz.ntmps97
    go_wp2_with (go_at_call 19; refine HF2.out.mono ?_; rintro e w1 ⟨rfl, hg1⟩; refine Hid.out ?_)
    refine (show ∀ {p : Prop}, p → Hid p from fun h => h) ?_
    have S1 := HS0.out.up hg1
    clear HF2 hg1 k0 k1 HS0
    go_wp2
    go_loopw [3, 4] (fun r i wr => ∃ (k m c1 : Nat) (a1 : Option Addr), k ≤ n ∧ m ≤ 23 * k ∧ i = .int .i64 (k : Int) ∧ r = .slice a1 m c1 ∧ VSt (w.alloc (.cells #[.int .i64 N, .slice a n c] 26)) a1 m c1 (putF [] (allU (ts.take k))) wr) (fun _ i _ => n - (intOf i).toNat)
    case atStart => exact ⟨0, 0, 0, _, by omega, by omega, rfl, rfl, by rw [List.take_zero]; exact S1⟩
    case round =>
      obtain ⟨k, m, c1, a1, hk, hm, rfl, rfl, hst⟩ := hrel
      clear S1
      obtain ⟨_, q1⟩ := HC0.out _ hst.bel
      by_cases hlt : k < n
      · obtain ⟨t, ht⟩ : ∃ t, ts[k]? = some t := ⟨ts[k]'(by omega), List.getElem?_eq_getElem (by omega)⟩
        rcases (HA.out.up hst.bel).2 with hz | ⟨b, off, rfl, hbl, hc⟩
        · omega
        · obtain ⟨x, cx, e0, iI, _⟩ := hc k t ht
          have hBt := HBt.out t (List.mem_of_getElem? ht)
          have hl := tB_len hBt
          have b1 : (0 : Int) ≤ (k : Int) := by omega
          have b2 : (k : Int) < (n : Int) := by omega
          rcases iI.2 with h0 | ⟨bx, ox, rfl, hbx, hcx⟩
          · omega
          · have HST := hideIt hst
            have HT2 : Hid (allU (ts.take k) ++ up t = allU (ts.take (k + 1))) := by show _ = _; rw [take_snocF ts k t ht, allU_snoc]
            have HCx : Hid (∀ u, Below wr.heap.size wr u → ∀ (j : Nat) (y : Int), t[j]? = some y → u.cell? ⟨bx, ox + j, none⟩ = some (.int .i64 y)) := fun u hu j y hy => by rw [hu.cell (p := ⟨bx, _, none⟩) hbx]; exact hcx j y hy
            clear hc ht iI hst hcx
            go_wp2
            go_loopw [3, 6] (fun r i wz => ∃ (j m1 c2 : Nat) (a2 : Option Addr), j + 1 ≤ t.length ∧ m1 ≤ m + j ∧ i = .int .i64 (j : Int) ∧ r = .slice a2 m1 c2 ∧ VSt (w.alloc (.cells #[.int .i64 N, .slice (some ⟨b, off, none⟩) n c] 26)) a2 m1 c2 (putF [] (allU (ts.take k) ++ upK t j)) wz ∧ Below wr.heap.size wr wz) (fun _ i _ => t.length - (intOf i).toNat)
            case atStart => exact ⟨0, m, c1, a1, by omega, by omega, rfl, rfl, by rw [upK, List.append_nil]; exact HST.out, Below.refl _ _⟩
            case round =>
              obtain ⟨j, m1, c2, a2, hj, hm1, rfl, rfl, hst, hbz⟩ := hrel
              have hw1 : IntKind.i64.wrap ((j : Int) + 1) = (j : Int) + 1 := by rw [IntKind.wrap_i64]; omega
              by_cases hjl : j + 1 < t.length
              · have h1 : t[j]? = some t[j] := List.getElem?_eq_getElem (by omega)
                have h2 : t[j + 1]? = some t[j + 1] := List.getElem?_eq_getElem (by omega)
                obtain ⟨p, hp⟩ : ∃ p, t[j] = p := ⟨_, rfl⟩
                obtain ⟨q, hq⟩ : ∃ q, t[j + 1] = q := ⟨_, rfl⟩
                rw [hp] at h1
                rw [hq] at h2
                have y0 := HCx.out _ hbz j p h1
                have y1 := HCx.out _ hbz (j + 1) q h2
                have z1 : (0 : Int) ≤ (j : Int) := by omega
                have z2 : (j : Int) < (t.length : Int) := by omega
                have z3 : (0 : Int) ≤ (j : Int) + 1 := by omega
                have z4 : (j : Int) + 1 < (t.length : Int) := by omega
                have z5 : ((j : Int) + 1).toNat = j + 1 := by omega
                have HSZ := hideIt hst
                have HBZ := hideIt hbz
                have hm1b : m1 ≤ 1048576 := by omega
                by_cases hpq : p < q
                · have d1 : decide (p < q) = true := decide_eq_true hpq
                  have HU := hideIt (upK_yes h1 h2 hpq)
                  have HPu : Hid (∀ u, Below wr.heap.size wr u → Calls Tryz.prog 80 #[.slice a2 m1 c2, .agg #[.int .i64 p, .int .i64 q]] u fun e v => ∃ a' m' c', e = .returned (.slice a' m' c') ∧ (v.ownsRow u.heap.size 28 2 (.slice a' m' c') m' (ecells (putE (putF [] (allU (ts.take k) ++ upK t j)) (p, q))) ∧ Below u.heap.size u v) ∧ (v.cell? ⟨bx, ox + j, none⟩ = some (.int .i64 p) ∧ v.cell? ⟨bx, ox + (j + 1), none⟩ = some (.int .i64 q))) := fun u hu =>
                    (l05Put_any (putF [] (allU (ts.take k) ++ upK t j)) (p, q) m1 a2 c2 hm1b u (Es_of_own (own_up HSZ.out.own hu))).mono fun e v ⟨a', m', c', he, ho, hb⟩ => ⟨a', m', c', he, ⟨ho, hb⟩, by rw [(hu.trans (hb.mono hu.size)).cell (p := ⟨bx, _, none⟩) (Nat.lt_of_lt_of_le hbx HBZ.out.size)]; exact y0, by rw [(hu.trans (hb.mono hu.size)).cell (p := ⟨bx, _, none⟩) (Nat.lt_of_lt_of_le hbx HBZ.out.size)]; exact y1⟩
                  clear hst hbz h1 h2 hp hq
                  go_wp2
                  go_quiet (fail)
                  go_wp2
                  go_region_held3 (fun u => u.cell? ⟨bx, ox + j, none⟩ = some (.int .i64 p) ∧ u.cell? ⟨bx, ox + (j + 1), none⟩ = some (.int .i64 q))
                    (first | exact ⟨by assumption, by assumption⟩ | go_keep)
                    (first | (go_at_call 80; refine (HPu.out _ (Below.drew (below_drewN (Below.refl _ _) _))).mono ?_; rintro e w5 ⟨a5, m5, c5, rfl, ⟨ho5, hb5⟩, hS5, hS6⟩))
                  have hm5 : m5 ≤ m1 + 1 := by
                    have h1 := ho5.1
                    rw [ecells_length] at h1
                    have h2 := put_len (putF [] (allU (ts.take k) ++ upK t j)) (p, q)
                    have h3 := HSZ.out.len
                    omega
                  have HB5 := hideIt ((Below.drew (below_drewN (Below.refl wr.heap.size wr) _)).trans hb5)
                  have S5 : VSt (w.alloc (.cells #[.int .i64 N, .slice (some ⟨b, off, none⟩) n c] 26)) a5 m5 c5 (putF [] (allU (ts.take k) ++ upK t (j + 1))) w5 := by
                    rw [HU.out, ← List.append_assoc, putF_snoc]
                    exact ⟨own_mono ho5 HSZ.out.bel.size, HSZ.out.bel.trans (HB5.out.mono HSZ.out.bel.size)⟩
                  clear ho5 hb5 hS5 hS6 HPu
                  go_wp2
                  exact ⟨⟨j + 1, m5, c5, a5, by omega, by omega, by go_num, rfl, S5, HBZ.out.trans (HB5.out.mono HBZ.out.size)⟩, by simp [intOf]; omega⟩
                · have d1 : decide (p < q) = false := decide_eq_false hpq
                  have HU := hideIt (upK_no h1 h2 hpq)
                  clear hst hbz h1 h2 hp hq
                  go_wp2
                  go_quiet (fail)
                  go_wp2
                  exact ⟨⟨j + 1, m1, c2, a2, by omega, by omega, by go_num, rfl, by rw [HU.out]; exact HSZ.out.up (below_drewN (Below.refl _ _) _), below_drewN HBZ.out _⟩, by simp [intOf]; omega⟩
              · have z6 : decide ((j : Int) + 1 < (t.length : Int)) = false := decide_eq_false (by omega)
                have HSZ := hideIt hst
                have HU : Hid (upK t j = up t) := by show _ = _; unfold up; rw [show t.length - 1 = j by omega]
                clear hst
                go_wp2
                exact ⟨⟨k + 1, m1, c2, a2, by omega, by omega, by go_num, rfl, by rw [← HT2.out, ← HU.out]; exact HSZ.out⟩, by simp [intOf]; omega⟩
      · obtain rfl : k = n := by omega
        rw [List.take_of_length_le (by omega)] at hst
        have HST := hideIt hst
        clear hst
        go_wp2
        go_ret
        exact ⟨a1, m, c1, rfl, by rw [HV.out]; exact own_mono HST.out.own (by simp), HB0.out.up HST.out.bel⟩
  · have HF2 := hideIt (sForestOk_no hP c hn (h.up b1))
    have HV := hideIt (edgesO_no hP)
    clear h b0 b1 hP S0
    go_enter Tryz.func97, Tryz.ntmps97
    go_wp2_with (go_at_call 19; refine HF2.out.mono ?_; rintro e w1 ⟨rfl, hg1⟩)
    go_ret
    have S1 := HS0.out.up hg1
    exact ⟨_, 0, 0, rfl, by rw [HV.out]; exact own_mono S1.own (by simp), HB0.out.up S1.bel⟩
end Go.Proofs.YtklalfkdikjkfaaGreat
namespace Go.Proofs.YtklalfkdikjkfaaGreat
open Go.RowKit

theorem ISt.appL {wb : World} {a : Option Addr} {m c : Nat} {ls : List Int} {u : World} (h : ISt wb a m c ls u) {xs : List Int} {m3 : Nat} {v : Value} {u' : World}
    (ho : u'.ownsRow wb.heap.size 3 1 v m3 (ic ls ++ ic xs)) (hg : u.grownBy u' (Value.slice a m c).ownBlock) :
    ∃ a' c', v = .slice a' m3 c' ∧ ISt wb a' m3 c' (ls ++ xs) u' := by
  obtain ⟨a', c', rfl⟩ := own_form ho
  rw [← ic_append] at ho
  refine ⟨a', c', rfl, ho, ?_⟩
  exact h.bel.grown hg (by have := h.size; omega) (fun j hj => (h.own.lt j hj).1)
/-- from its root on a tour is as it is -/
theorem reT_zero {t : List Int} {v : Int} (hB : tB t = true) (hv : t[0]? = some v) : reT t 0 v = t := by
  obtain ⟨x, r, s, rfl, _, _, hr⟩ := tB_open hB
  simp at hv
  subst hv
  rcases hr with rfl | ⟨q, rfl⟩
  · simp [reT]
  · have e : x :: (q ++ [x]) = (x :: q) ++ [x] := rfl
    unfold reT
    rw [e, List.length_append, List.take_append_of_le_length (by simp), List.take_of_length_le (by simp)]
    simp
theorem tans_none {w u : World} {o : Option (List Int)} (ho : o = none) {g : Nat} (hown : u.ownsRow w.heap.size 3 1 (.slice (some ⟨g, 0, none⟩) 0 0) 0 (ic [])) (h : Below w.heap.size w u) : TAns w o (.returned (.tuple #[.slice (some ⟨g, 0, none⟩) 0 0, .bool false])) u := by
  subst ho
  exact ⟨_, 0, 0, rfl, hown, h⟩

set_option maxRecDepth 100000 in
set_option maxHeartbeats 4000000 in
theorem sReroot_any (t : List Int) (v : Int) (n : Nat) (a : Option Addr) (c : Nat) (hn : n ≤ 3000000) (hc : n ≤ c) (w : World) (h : Is w w.heap.size a n t) :
    Calls Tryz.prog 178 #[.slice a n c, .int .i64 v] w fun e w' => TAns w (reO t v) e w' := by
  obtain ⟨i0, hi, hz0, hz1, hz2⟩ := info_parts info3i
  have HX := hideIt (fun u (hu : Below w.heap.size w u) => l06First_any t v n a c hn u (h.up hu))
  have HT := hideIt (sTourOk_any t n a c hn w h)
  cases hT : tB t with
  | false =>
    rw [hT] at HT
    have HO := hideIt (show reO t v = none by unfold reO; rw [hT, if_neg (by simp)])
    clear hT h
    go_enter Tryz.func178, Tryz.ntmps178
    go_wp2_with (go_at_call 65; refine HT.out.mono ?_; rintro e w2 ⟨rfl, hb2⟩)
    go_ret2
    exact tans_none HO.out (own_mono (ISt.start w2).own hb2.size) (hb2.alloc hb2.size _)
  | true =>
    rw [hT] at HT
    by_cases hm : v ∈ t
    · obtain ⟨k, hk, hkn, hkv, hkf⟩ := fst_at hm
      have hlt := fst_lt hT hkn hkv hkf
      have HO := hideIt (show reO t v = some (reT t k v) by unfold reO; rw [hT, if_pos ⟨rfl, hm⟩, hk]; rfl)
      rw [hk] at HX
      have hlen := h.1
      rw [hlen] at hkn hlt
      have HI := hideIt h
      have d1 : decide ((k : Int) < 0) = false := decide_eq_false (by omega)
      obtain ⟨b, off, rfl⟩ : ∃ b off, a = some ⟨b, off, none⟩ := by
        rcases h.2 with hz | ⟨b, off, h1, _⟩
        · omega
        · exact ⟨b, off, h1⟩
      by_cases hk0 : k = 0
      · subst hk0
        have HZ := hideIt (reT_zero hT hkv)
        clear hT h hm hkv hkf hk
        go_enter Tryz.func178, Tryz.ntmps178
        go_wp2_with (first | (go_at_call 65; refine HT.out.mono ?_; rintro e w2 ⟨rfl, hb2⟩; refine Hid.out ?_))
        refine (show ∀ {p : Prop}, p → Hid p from fun h => h) ?_
        have HX2 := hideIt (HX.out w2 hb2)
        have S1 := ISt.start w2
        have HN := hideIt (((HI.out.up hb2).up S1.bel).news)
        have HL2 : Hid ((ic t).length = n * 1) := by show _ = _; rw [ic_len]; omega
        have z2 := hb2.size
        clear HX HT HI
        go_wp2_with (first | (go_at_call 177; refine HX2.out.mono ?_; rintro e w3 ⟨rfl, hw⟩; have hw' := hw.symm; subst hw'; clear hw) | (at_builtin; refine wpList_append_own _ rfl _ _ 39 rfl w2.heap.size 3 i0 _ 1 8 Tryz.underlying39 hi hz0 hz1 hz2 rfl (by decide) _ _ _ rfl S1.own ⟨b, off, none⟩ n c (ic t) rfl HL2.out HN.out ic_one (by unfold maxLen; omega) (by omega) (by simp) ?_))
        intro v3 w3 hown3 hg3 _
        obtain ⟨a3, c3, rfl, S3⟩ := S1.appL hown3 hg3
        clear hown3 hg3
        go_wp2
        go_ret2
        exact tans_yes HO.out z2 (by rw [HZ.out]; exact S3.own) (hb2.trans (S3.bel.mono z2))
      · obtain ⟨t1, ht1⟩ : ∃ x, x = (t.take (n - 1)).drop k := ⟨_, rfl⟩
        obtain ⟨t2, ht2⟩ : ∃ x, x = t.take k := ⟨_, rfl⟩
        have HZ : Hid (reT t k v = t1 ++ (t2 ++ [v])) := by show _ = _; unfold reT; rw [ht1, ht2, hlen]
        have hk1 : k < n - 1 := by omega
        have dk : ((k : Int) == 0) = false := by simp; omega
        clear hT h hm hkv hkf hk
        go_enter Tryz.func178, Tryz.ntmps178
        go_wp2_with (first | (go_at_call 65; refine HT.out.mono ?_; rintro e w2 ⟨rfl, hb2⟩; refine Hid.out ?_))
        refine (show ∀ {p : Prop}, p → Hid p from fun h => h) ?_
        have HX2 := hideIt (HX.out w2 hb2)
        have S1 := ISt.start w2
        have HI1 := hideIt ((HI.out.up hb2).up S1.bel)
        have HN := hideIt (((HI1.out.take (show n - 1 ≤ n by omega)).drop (show k ≤ n - 1 by omega)).news)
        have HL1 : Hid ((ic t1).length = (n - 1 - k) * 1) := by show _ = _; rw [ic_len, ht1, List.length_drop, List.length_take]; omega
        have HL2 : Hid ((ic t2).length = k * 1) := by show _ = _; rw [ic_len, ht2, List.length_take]; omega
        rw [← ht1] at HN
        have z2 := hb2.size
        have e1 : ((n : Int) - 1).toNat = n - 1 := by omega
        have b1 : (0 : Int) ≤ (k : Int) := by omega
        have b2 : (k : Int) ≤ (n : Int) - 1 := by omega
        have b3 : (n : Int) - 1 ≤ (c : Int) := by omega
        have b4 : (k : Int) ≤ (c : Int) := by omega
        have hck : ¬ (c = k) := by omega
        have HT1 := hideIt ht1
        have HT2 := hideIt ht2
        clear HX HT ht1 ht2
        go_wp2_with (first | (go_at_call 177; refine HX2.out.mono ?_; rintro e w3 ⟨rfl, hw⟩; have hw' := hw.symm; subst hw'; clear hw) | (at_builtin; refine wpList_append_own _ rfl _ _ 39 rfl w2.heap.size 3 i0 _ 1 8 Tryz.underlying39 hi hz0 hz1 hz2 rfl (by decide) _ _ _ rfl S1.own ⟨b, off + k, none⟩ (n - 1 - k) (c - k) (ic t1) rfl HL1.out HN.out ic_one (by unfold maxLen; omega) (by omega) (by simp) ?_))
        intro v3 w3 hown3 hg3 _
        obtain ⟨a3, c3, rfl, S3⟩ := S1.appL hown3 hg3
        clear hown3 hg3 S1
        refine Hid.out ?_
        refine (show ∀ {p : Prop}, p → Hid p from fun h => h) ?_
        have HI3 := hideIt ((HI.out.up hb2).up S3.bel)
        have HN3 := hideIt ((HI3.out.take (show k ≤ n by omega)).news)
        rw [← HT2.out] at HN3
        have z3 := S3.size
        clear HI1 HN
        go_wp2_with (at_builtin; refine wpList_append_own _ rfl _ _ 39 rfl w2.heap.size 3 i0 _ 1 8 Tryz.underlying39 hi hz0 hz1 hz2 rfl (by decide) _ _ _ rfl S3.own ⟨b, off, none⟩ k c (ic t2) rfl HL2.out HN3.out ic_one (by unfold maxLen; omega) (by omega) z3 ?_)
        intro v4 w4 hown4 hg4 _
        obtain ⟨a4, c4, rfl, S4⟩ := S3.appL hown4 hg4
        clear hown4 hg4 S3 HI3 HN3
        refine Hid.out ?_
        refine (show ∀ {p : Prop}, p → Hid p from fun h => h) ?_
        have z4 := S4.size
        go_wp2_with (at_builtin; refine wpList_append_own _ rfl _ _ 39 rfl w2.heap.size 3 i0 _ 1 8 Tryz.underlying39 hi hz0 hz1 hz2 rfl (by decide) _ _ _ rfl (S4.own.alloc _) ⟨w4.heap.size, 0, none⟩ 1 1 [.int .i64 v] rfl rfl (newsI w4 v) (by intro u hu; simp at hu; subst hu; rfl) (by unfold maxLen; omega) (by omega) (by simp; omega) ?_)
        intro v5 w5 hown5 hg5 _
        obtain ⟨a5, c5, rfl, S5⟩ := S4.app hown5 hg5
        clear hown5 hg5 S4
        go_wp2
        go_ret2
        exact tans_yes HO.out z2 (by rw [HZ.out]; have := S5.own; rw [List.nil_append, List.append_assoc] at this; exact this) (hb2.trans (S5.bel.mono z2))
    · have HO := hideIt (show reO t v = none by unfold reO; rw [if_neg (by simp [hm])])
      rw [fst_no hm] at HX
      clear hT h hm
      go_enter Tryz.func178, Tryz.ntmps178
      go_wp2_with (first | (go_at_call 65; refine HT.out.mono ?_; rintro e w2 ⟨rfl, hb2⟩; refine Hid.out ?_))
      refine (show ∀ {p : Prop}, p → Hid p from fun h => h) ?_
      have HX2 := hideIt (HX.out w2 hb2)
      clear HX HT
      go_wp2_with (go_at_call 177; refine HX2.out.mono ?_; rintro e w3 ⟨rfl, hw⟩; have hw' := hw.symm; subst hw'; clear hw)
      go_ret2
      exact tans_none HO.out (own_mono (ISt.start w2).own hb2.size) (hb2.alloc hb2.size _)
end Go.Proofs.YtklalfkdikjkfaaGreat
