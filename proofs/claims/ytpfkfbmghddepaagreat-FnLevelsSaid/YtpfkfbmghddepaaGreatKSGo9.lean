/- slices.BinarySearchFunc over edges. slices.Concat of edges. The program's HasEdge; slices.Index and Contains of edges. The program's AddEdge. WebAdd: pure, and what its boxes hold. The specification's GraphOf. -/
import Derived.Test.YtpfkfbmghddepaaGreatKIns9
import Derived.Test.YtpfkfbmghddepaaGreatKMem6
import Derived.Deep.RegionHeld3
import Derived.Test.YtpfkfbmghddepaaGreatKLd9
import Derived.Lib.AppendZerosOnto
import Derived.Lib.Walk
import Derived.Lib.SliceRun
import Derived.Laws.AppendOwnNone
import Derived.Test.YtpfkfbmghddepaaGreatKInG6
import Derived.Test.YtpfkfbmghddepaaGreatKSTour
import Derived.Test.YtpfkfbmghddepaaGreatKILb9
import Derived.Deep.AppendLies
import Derived.Deep.RegionLaw
namespace Go.Proofs.YtpfkfbmghddepaaGreat
open Go.RowKit

set_option maxRecDepth 100000 in
set_option maxHeartbeats 2000000 in
theorem BSF_any (es : List EdgeV) (ha : Asc es) (e : EdgeV) (n : Nat) (a : Option Addr) (c : Nat) (hn : n ≤ 1048576) (w : World) (h : Es w w.heap.size a n es) :
    Calls Tryz.prog 142 #[.slice a n c, .agg #[.int .i64 e.1, .int .i64 e.2], .func (.func 111) #[] #[]] w fun x w' => ∃ (p : Nat) (fb : Bool), x = .returned (.tuple #[.int .i64 (p : Int), .bool fb]) ∧ Split es e p ∧ Below w.heap.size w w' := by
  obtain ⟨hlen, hrow⟩ := h
  have HR := hideIt hrow
  have HA := hideIt ha
  clear hrow ha
  go_enter Tryz.func142, Tryz.ntmps142
  go_wp2
  go_loopw [9, 10] (fun vi vj wr => ∃ (i j : Nat), i ≤ j ∧ j ≤ n ∧ vi = .int .i64 (i : Int) ∧ vj = .int .i64 (j : Int) ∧ Hid (∀ m d, m < i → es[m]? = some d → lt d e = true) ∧ Hid (∀ m d, j ≤ m → es[m]? = some d → lt d e = false) ∧
      Below w.heap.size w wr ∧ wr.cell? ⟨w.heap.size, 0, none⟩ = some (.int .i64 e.1) ∧ wr.cell? ⟨w.heap.size, 1, none⟩ = some (.int .i64 e.2) ∧ w.heap.size < wr.heap.size) (fun vi vj _ => (intOf vj).toNat - (intOf vi).toNat)
  case atStart => exact ⟨0, n, by omega, by omega, rfl, rfl, fun m d hm => by omega, fun m d hm hd => by have := (List.getElem?_eq_some_iff.1 hd).1; omega, (Below.refl _ _).alloc (Nat.le_refl _) _, by simp, by simp, by simp⟩
  case round =>
    obtain ⟨i, j, hij, hjn, rfl, rfl, hlo, hhi, hb, x0, x1, hsz⟩ := hrel
    by_cases hlt : i < j
    · have b0 : (i : Int) < (j : Int) := by omega
      rcases HR.out with hz | ⟨b, off, rfl, hbl, hc⟩
      · omega
      · obtain ⟨h, hh⟩ : ∃ h, h = (i + j) / 2 := ⟨_, rfl⟩
        have hm : ((i : Int) + (j : Int)) / 2 = (h : Int) := by omega
        obtain ⟨f, hf⟩ : ∃ f, es[h]? = some f := ⟨es[h]'(by omega), List.getElem?_eq_getElem (by omega)⟩
        obtain ⟨c0, c1⟩ := hc h f hf
        have b1 : (0 : Int) ≤ (h : Int) := by omega
        have b2 : (h : Int) < (n : Int) := by omega
        have hhi2 : h < j := by omega
        have hhi3 : i ≤ h := by omega
        have hbd := hb.drew
        have HK : Hid (∀ W : World, Below (w.heap.size + 1) wr W → (W.cell? ⟨b, off + h * 2, none⟩ = some (.int .i64 f.1) ∧ W.cell? ⟨b, off + h * 2 + 1, none⟩ = some (.int .i64 f.2)) ∧ W.cell? ⟨w.heap.size, 0, none⟩ = some (.int .i64 e.1) ∧ W.cell? ⟨w.heap.size, 1, none⟩ = some (.int .i64 e.2)) := fun W hW =>
          ⟨⟨by rw [hW.cell (by show b < _; omega), hb.cell hbl]; exact c0, by rw [hW.cell (by show b < _; omega), hb.cell hbl]; exact c1⟩, by rw [hW.cell (by show w.heap.size < _; omega)]; exact x0, by rw [hW.cell (by show w.heap.size < _; omega)]; exact x1⟩
        have HC : Hid (∀ W : World, Below (w.heap.size + 1) wr W → Calls Tryz.prog 111 #[.agg #[.int .i64 f.1, .int .i64 f.2], .agg #[.int .i64 e.1, .int .i64 e.2]] W fun x w' => x = .returned (.int .i64 (cmpE f e)) ∧ Below (w.heap.size + 1) wr w') := fun W hW =>
          (compareEdges_any f e W).mono fun _ _ ⟨he, hb'⟩ => ⟨he, hW.trans (hb'.mono (Nat.le_trans (by omega) hW.size))⟩
        have S0 : Below (w.heap.size + 1) wr wr.drew := (Below.refl _ _).drew
        cases hL : lt f e with
        | true =>
          have dc : decide (cmpE f e < 0) = true := decide_eq_true ((cmpE_neg f e).2 hL)
          have HLO : Hid (∀ m d, m < h + 1 → es[m]? = some d → lt d e = true) := fun m d hm hd => by
            by_cases hmh : m = h
            · subst hmh; rw [hf] at hd; obtain rfl := Option.some.inj hd; exact hL
            · exact lt_trans' (HA.out m h d f (by omega) hd hf) hL
          generalize cmpE f e = cv at HC dc
          clear hc hf c0 c1 hlo hL hh
          go_wp2
          go_region_held3 (fun u => Below (w.heap.size + 1) wr u ∧ (u.cell? ⟨b, off + h * 2, none⟩ = some (.int .i64 f.1) ∧ u.cell? ⟨b, off + h * 2 + 1, none⟩ = some (.int .i64 f.2)) ∧ u.cell? ⟨w.heap.size, 0, none⟩ = some (.int .i64 e.1) ∧ u.cell? ⟨w.heap.size, 1, none⟩ = some (.int .i64 e.2))
            (first | exact ⟨S1, HK.out _ S1⟩ | exact ⟨S0, HK.out _ S0⟩)
            ((go_at_call 111; refine (HC.out _ S0).mono ?_; rintro x w1 ⟨rfl, S1⟩))
          all_goals
            obtain ⟨_, y0, y1⟩ := HK.out _ S1
            have hs1 := S1.size
            go_wp2
            exact ⟨⟨h + 1, j, by omega, by omega, by go_num, rfl, HLO, hhi, hb.trans (S1.mono (by omega)), y0, y1, by omega⟩, by simp [intOf]; omega⟩
        | false =>
          have dc : decide (cmpE f e < 0) = false := decide_eq_false fun h2 => by rw [(cmpE_neg f e).1 h2] at hL; cases hL
          have HHI : Hid (∀ m d, h ≤ m → es[m]? = some d → lt d e = false) := fun m d hm hd => by
            by_cases hmh : m = h
            · subst hmh; rw [hf] at hd; obtain rfl := Option.some.inj hd; exact hL
            · cases h3 : lt d e with
              | false => rfl
              | true => rw [lt_trans' (HA.out h m f d (by omega) hf hd) h3] at hL; cases hL
          generalize cmpE f e = cv at HC dc
          clear hc hf c0 c1 hhi hL hh
          go_wp2
          go_region_held3 (fun u => Below (w.heap.size + 1) wr u ∧ (u.cell? ⟨b, off + h * 2, none⟩ = some (.int .i64 f.1) ∧ u.cell? ⟨b, off + h * 2 + 1, none⟩ = some (.int .i64 f.2)) ∧ u.cell? ⟨w.heap.size, 0, none⟩ = some (.int .i64 e.1) ∧ u.cell? ⟨w.heap.size, 1, none⟩ = some (.int .i64 e.2))
            (first | exact ⟨S1, HK.out _ S1⟩ | exact ⟨S0, HK.out _ S0⟩)
            ((go_at_call 111; refine (HC.out _ S0).mono ?_; rintro x w1 ⟨rfl, S1⟩))
          all_goals
            obtain ⟨_, y0, y1⟩ := HK.out _ S1
            have hs1 := S1.size
            go_wp2
            exact ⟨⟨i, h, by omega, by omega, rfl, rfl, hlo, HHI, hb.trans (S1.mono (by omega)), y0, y1, by omega⟩, by simp [intOf]; omega⟩
    · obtain rfl : i = j := by omega
      have HS : Hid (Split es e i) := ⟨by omega, hlo.out, hhi.out⟩
      have S0 : Below (w.heap.size + 1) wr wr.drew := (Below.refl _ _).drew
      clear hlo hhi
      by_cases hin : i < n
      · rcases HR.out with hz | ⟨b, off, rfl, hbl, hc⟩
        · omega
        · obtain ⟨f, hf⟩ : ∃ f, es[i]? = some f := ⟨es[i]'(by omega), List.getElem?_eq_getElem (by omega)⟩
          obtain ⟨c0, c1⟩ := hc i f hf
          have b1 : (0 : Int) ≤ (i : Int) := by omega
          have b2 : (i : Int) < (n : Int) := by omega
          have HK : Hid (∀ W : World, Below (w.heap.size + 1) wr W → (W.cell? ⟨b, off + i * 2, none⟩ = some (.int .i64 f.1) ∧ W.cell? ⟨b, off + i * 2 + 1, none⟩ = some (.int .i64 f.2)) ∧ W.cell? ⟨w.heap.size, 0, none⟩ = some (.int .i64 e.1) ∧ W.cell? ⟨w.heap.size, 1, none⟩ = some (.int .i64 e.2)) := fun W hW =>
            ⟨⟨by rw [hW.cell (by show b < _; omega), hb.cell hbl]; exact c0, by rw [hW.cell (by show b < _; omega), hb.cell hbl]; exact c1⟩, by rw [hW.cell (by show w.heap.size < _; omega)]; exact x0, by rw [hW.cell (by show w.heap.size < _; omega)]; exact x1⟩
          have HC : Hid (∀ W : World, Below (w.heap.size + 1) wr W → Calls Tryz.prog 111 #[.agg #[.int .i64 f.1, .int .i64 f.2], .agg #[.int .i64 e.1, .int .i64 e.2]] W fun x w' => x = .returned (.int .i64 (cmpE f e)) ∧ Below (w.heap.size + 1) wr w') := fun W hW =>
            (compareEdges_any f e W).mono fun _ _ ⟨he, hb'⟩ => ⟨he, hW.trans (hb'.mono (Nat.le_trans (by omega) hW.size))⟩
          have dl : decide ((i : Int) < (n : Int)) = true := decide_eq_true b2
          generalize cmpE f e = cv at HC
          clear hc hf c0 c1
          go_wp2
          go_region_held3 (fun u => Below (w.heap.size + 1) wr u ∧ (u.cell? ⟨b, off + i * 2, none⟩ = some (.int .i64 f.1) ∧ u.cell? ⟨b, off + i * 2 + 1, none⟩ = some (.int .i64 f.2)) ∧ u.cell? ⟨w.heap.size, 0, none⟩ = some (.int .i64 e.1) ∧ u.cell? ⟨w.heap.size, 1, none⟩ = some (.int .i64 e.2))
            (first | exact ⟨S1, HK.out _ S1⟩ | exact ⟨S0, HK.out _ S0⟩)
            ((go_at_call 111; refine (HC.out _ S0).mono ?_; rintro x w1 ⟨rfl, S1⟩))
          all_goals
            go_wp2
            exact bodyPost_ret (v := .tuple #[.int .i64 (i : Int), .bool (cv == 0)]) (by simp [results, Tryz.results142, go_sem]) rfl ⟨i, cv == 0, rfl, HS.out, hb.trans (S1.mono (by omega))⟩
      · obtain rfl : i = n := by omega
        go_wp2
        refine wp_region_any (by kernel_rfl) ?_
        change wpAny _ _ _ _ _ _ _ (World.drew _)
        refine takeOp (i := 0) (v := ?_) rfl (by kernel_rfl) (by kernel_rfl) (by kernel_rfl) (fun _ _ _ h => h) (by kernel_rfl) ?_ ?_
        rotate_left
        · intro w; go_simp; try with_reducible rfl
        refine takeOp (i := 1) (v := ?_) rfl (by kernel_rfl) (by kernel_rfl) (by kernel_rfl) (fun _ _ _ h => h) (by kernel_rfl) ?_ ?_
        rotate_left
        · intro w; go_simp; try with_reducible rfl
        refine takeOp (i := 2) (v := ?_) rfl (by kernel_rfl) (by kernel_rfl) (by kernel_rfl) (fun _ _ _ h => h) (by kernel_rfl) ?_ ?_
        rotate_left
        · intro w; go_simp; try with_reducible rfl
        refine wpAny_ready (rs := [3]) (by kernel_rfl) (by simp) ?_
        refine AllReady.cons rfl (fun K hK => ?_) AllReady.nil
        go_simp
        refine hK _ _ ?_
        clear hK K
        refine wpAny_ready (rs := [4]) (by kernel_rfl) (by simp) ?_
        refine AllReady.cons rfl (fun K hK => ?_) AllReady.nil
        go_simp
        refine hK _ _ ?_
        clear hK K
        refine skipOp (i := 5) rfl (by kernel_rfl) (by kernel_rfl) (by kernel_rfl) (fun _ _ _ h => h) (by kernel_rfl) ?_
        refine skipOp (i := 6) rfl (by kernel_rfl) (by kernel_rfl) (by kernel_rfl) (fun _ _ _ h => h) (by kernel_rfl) ?_
        refine skipOp (i := 7) rfl (by kernel_rfl) (by kernel_rfl) (by kernel_rfl) (fun _ _ _ h => h) (by kernel_rfl) ?_
        refine skipOp (i := 8) rfl (by kernel_rfl) (by kernel_rfl) (by kernel_rfl) (fun _ _ _ h => h) (by kernel_rfl) ?_
        refine skipOp (i := 9) rfl (by kernel_rfl) (by kernel_rfl) (by kernel_rfl) (fun _ _ _ h => h) (by kernel_rfl) ?_
        refine skipOp (i := 10) rfl (by kernel_rfl) (by kernel_rfl) (by kernel_rfl) (fun _ _ _ h => h) (by kernel_rfl) ?_
        refine skipOp (i := 11) rfl (by kernel_rfl) (by kernel_rfl) (by kernel_rfl) (fun _ _ _ h => h) (by kernel_rfl) ?_
        refine skipOp (i := 12) rfl (by kernel_rfl) (by kernel_rfl) (by kernel_rfl) (fun _ _ _ h => h) (by kernel_rfl) ?_
        refine takeOp (i := 13) (v := ?_) rfl (by kernel_rfl) (by kernel_rfl) (by kernel_rfl) (fun _ _ _ h => h) (by kernel_rfl) ?_ ?_
        rotate_left
        · intro w; go_simp; try with_reducible rfl
        refine takeOp (i := 14) (v := ?_) rfl (by kernel_rfl) (by kernel_rfl) (by kernel_rfl) (fun _ _ _ h => h) (by kernel_rfl) ?_ ?_
        rotate_left
        · intro w; go_simp; try with_reducible rfl
        refine wpAny_ready (rs := [15]) (by kernel_rfl) (by simp) ?_
        refine AllReady.cons rfl (fun K hK => ?_) AllReady.nil
        go_simp
        refine hK _ _ ?_
        clear hK K
        refine wpAny_done (by kernel_rfl) ?_ _
        go_wp2
        exact bodyPost_ret (v := .tuple #[.int .i64 (i : Int), .bool false]) (by simp [results, Tryz.results142, go_sem]) rfl ⟨i, false, rfl, HS.out, hb.trans (S0.mono (by omega))⟩
end Go.Proofs.YtpfkfbmghddepaaGreat
namespace Go.Proofs.YtpfkfbmghddepaaGreat
open Go.RowKit

theorem Grow_zero (w : World) : Calls Tryz.prog 190 #[.slice none 0 0, .int .i64 0] w fun e w' => e = .returned (.slice none 0 0) ∧ w' = w := by
  go_enter Tryz.func190, Tryz.ntmps190
  go_wp2
  go_ret
  exact ⟨rfl, rfl⟩
theorem Grow_some (n : Nat) (hn0 : 0 < n) (hn : n ≤ 10000000) (w : World) :
    Calls Tryz.prog 190 #[.slice none 0 0, .int .i64 (n : Int)] w fun e w' => ∃ a' c', e = .returned (.slice a' 0 c') ∧ w'.ownsRow w.heap.size 28 2 (.slice a' 0 c') 0 [] ∧ Below w.heap.size w w' := by
  obtain ⟨i0, hi, hz0, hz1, hz2⟩ := info_parts infoIE
  have hold : (Builtin.firstCells i0.size 0 (.slice none 0 0)).run Tryz.prog w.drew = .ok ([] : List Value).toArray w.drew := run_firstCells_none w.drew i0.size 0 0 0
  have hrz : ∀ ty, (Builtin.append_ #[31, 3] ty #[.slice none 0 0, .int .i64 (n : Int)]).run Tryz.prog w = _ := fun ty =>
    Lib.run_append_grow_zeros w 31 3 ty 28 i0 _ .i64 .i64 Tryz.underlying31 Tryz.underlying3 hi hz0 none 0 0 [] hold n hn0 (by rw [hz1]; omega) (by omega) (by omega)
      (by rw [hz2]; omega) (by rw [Nat.zero_add]; exact growslice_fits (by omega) (by rw [hz2]; omega))
  have hGn : 0 + n ≤ grownCap w (0 + n) 0 28 := grownCap_ge w _ _ _
  have hGm : grownCap w (0 + n) 0 28 ≤ maxLen := grownCap_le_maxLen w (0 + n) 0 28 (by unfold maxLen; omega)
  obtain ⟨G, hG⟩ : ∃ G, G = grownCap w (0 + n) 0 28 := ⟨_, rfl⟩
  rw [← hG] at hGn hGm
  have hrz2 : ∀ ty, (Builtin.append_ #[31, 3] ty #[.slice none 0 0, .int .i64 (n : Int)]).run Tryz.prog w = .ok (.slice (some ⟨w.heap.size, 0, none⟩) n G) (w.drew.alloc (.cells (Builtin.zeroCells #[.int .i64 0, .int .i64 0] n ++ Builtin.zeroCells #[.int .i64 0, .int .i64 0] (G - n)) 28)) := fun ty => by
    rw [hrz ty, ← hG]
    simp [Value.cells]
  have hsz : (Builtin.zeroCells #[.int .i64 0, .int .i64 0] n ++ Builtin.zeroCells #[.int .i64 0, .int .i64 0] (G - n)).size = G * 2 := by
    simp [Builtin.zeroCells]
    omega
  have HO := hideIt (show (w.drew.alloc (.cells (Builtin.zeroCells #[.int .i64 0, .int .i64 0] n ++ Builtin.zeroCells #[.int .i64 0, .int .i64 0] (G - n)) 28)).ownsRow w.heap.size 28 2 (.slice (some ⟨w.heap.size, 0, none⟩) 0 G) 0 [] from
    ⟨rfl, .inr ⟨w.heap.size, G, _, rfl, Nat.le_refl _, heap_alloc_new w.drew _, by omega, hGm, hsz, rfl⟩⟩)
  have HB := hideIt (show Below w.heap.size w (w.drew.alloc (.cells (Builtin.zeroCells #[.int .i64 0, .int .i64 0] n ++ Builtin.zeroCells #[.int .i64 0, .int .i64 0] (G - n)) 28)) from (Below.refl _ _).drew.alloc (Nat.le_refl _) _)
  generalize (w.drew.alloc (.cells (Builtin.zeroCells #[.int .i64 0, .int .i64 0] n ++ Builtin.zeroCells #[.int .i64 0, .int .i64 0] (G - n)) 28)) = W at hrz2 HO HB
  have g1 : (0 : Int) ≤ (G : Int) := by omega
  have d0 : decide ((0 : Int) < (n : Int)) = true := decide_eq_true (by omega)
  have d1 : decide ((n : Int) < 0) = false := decide_eq_false (by omega)
  unfold maxLen at hGm
  clear hrz hold hG hsz
  go_enter Tryz.func190, Tryz.ntmps190
  go_wp2_with (at_builtin; refine Lib.wpList_append_run _ rfl _ _ _ _ rfl _ _ rfl rfl _ _ (hrz2 _) ?_)
  all_goals
    go_ret
    exact ⟨_, _, rfl, HO.out, HB.out⟩
/-- one of the lists that are put together -/
structure Part where
  a : Option Addr
  m : Nat
  c : Nat
  es : List EdgeV
/-- the lists stand in block b -/
def Parts (w : World) (b : Nat) (ps : List Part) : Prop :=
  b < w.heap.size ∧ ∀ (j : Nat) (p : Part), ps[j]? = some p → w.cell? ⟨b, j, none⟩ = some (.slice p.a p.m p.c) ∧ Es w w.heap.size p.a p.m p.es ∧ (p.a = none → p.m = 0 ∧ p.c = 0)
def pLen (ps : List Part) : Nat := (ps.map fun p => p.m).sum
def pAll (ps : List Part) : List EdgeV := ps.flatMap fun p => p.es
theorem pLen_snoc (ps : List Part) (p : Part) : pLen (ps ++ [p]) = pLen ps + p.m := by simp [pLen]
theorem pAll_snoc (ps : List Part) (p : Part) : pAll (ps ++ [p]) = pAll ps ++ p.es := by simp [pAll]
theorem pLen_take (ps : List Part) (k : Nat) : pLen (ps.take k) ≤ pLen ps := by
  have h := congrArg pLen (List.take_append_drop k ps)
  have e : ∀ a b : List Part, pLen (a ++ b) = pLen a + pLen b := fun a b => by simp [pLen]
  rw [e] at h
  omega
theorem pAll_len {w : World} {b : Nat} {ps : List Part} (h : Parts w b ps) (k : Nat) : (pAll (ps.take k)).length = pLen (ps.take k) := by
  induction k with
  | zero => simp [pAll, pLen]
  | succ k ih =>
    by_cases hk : k < ps.length
    · obtain ⟨p, hp⟩ : ∃ p, ps[k]? = some p := ⟨ps[k], List.getElem?_eq_getElem hk⟩
      rw [take_snocF ps k p hp, pAll_snoc, pLen_snoc, List.length_append, ih, (h.2 k p hp).2.1.1]
    · rw [List.take_of_length_le (by omega), ← List.take_of_length_le (by omega : ps.length ≤ k)]; exact ih
theorem Es.news {w : World} {B b off n : Nat} {es : List EdgeV} (h : Es w B (some ⟨b, off, none⟩) n es) : ∀ j u, (ecells es)[j]? = some u → w.cell? ((⟨b, off, none⟩ : Addr).add j) = some u := by
  intro j u hj
  have hl : j < es.length * 2 := by have := (List.getElem?_eq_some_iff.1 hj).1; rw [ecells_length] at this; exact this
  have hn := h.1
  rcases h.2 with h0 | ⟨b', off', hb, _, hc⟩
  · omega
  · simp at hb
    obtain ⟨rfl, rfl⟩ := hb
    obtain ⟨f, hf⟩ : ∃ f, es[j / 2]? = some f := ⟨es[j / 2]'(by omega), List.getElem?_eq_getElem (by omega)⟩
    obtain ⟨c0, c1⟩ := hc _ f hf
    obtain ⟨d0, d1⟩ := ecells_at es _ f hf
    rw [show ((⟨b, off, none⟩ : Addr).add j) = ⟨b, off + j, none⟩ by by_cases h0 : j = 0 <;> simp [Addr.add, h0]]
    rcases (show j = j / 2 * 2 ∨ j = j / 2 * 2 + 1 by omega) with e | e
    · rw [← e] at d0 c0
      rw [d0] at hj
      rw [c0]
      exact hj
    · rw [← e] at d1
      rw [Nat.add_assoc, ← e] at c1
      rw [d1] at hj
      rw [c1]
      exact hj
theorem ecells_one {es : List EdgeV} : ∀ u ∈ ecells es, u.oneCell' = true := by
  intro u hu
  simp only [ecells, List.mem_flatMap] at hu
  obtain ⟨e, _, he⟩ := hu
  simp [ecell] at he
  rcases he with rfl | rfl <;> rfl
set_option maxRecDepth 100000 in
set_option maxHeartbeats 2000000 in
theorem Concat_any (ps : List Part) (b k0 : Nat) (hk0 : ps.length = k0) (hsm : k0 ≤ 10) (w : World) (h : Parts w b ps) (hlen : pLen ps ≤ 3000000) :
    Calls Tryz.prog 143 #[.slice (some ⟨b, 0, none⟩) k0 k0] w fun e w' => ∃ a m c, e = .returned (.slice a m c) ∧ w'.ownsRow w.heap.size 28 2 (.slice a m c) m (ecells (pAll ps)) ∧ Below w.heap.size w w' := by
  obtain ⟨i0, hi, hz0, hz1, hz2⟩ := info_parts infoIE
  have HP := hideIt h
  have HL := hideIt hlen
  have HK := hideIt hk0
  have hbw := h.1
  clear h hlen hk0
  have HG : Hid (∀ n : Nat, n ≤ 3000000 → Calls Tryz.prog 190 #[.slice none 0 0, .int .i64 (n : Int)] w fun e w' => ∃ a' c', e = .returned (.slice a' 0 c') ∧ w'.ownsRow w.heap.size 28 2 (.slice a' 0 c') 0 [] ∧ Below w.heap.size w w') := fun n hn => by
    by_cases h0 : n = 0
    · subst h0
      exact (Grow_zero w).mono fun _ _ ⟨he, hw⟩ => ⟨_, _, he, by rw [hw]; exact World.ownsRow_nil _ _ _ _, by rw [hw]; exact Below.refl _ _⟩
    · exact Grow_some n (by omega) (by omega) w
  go_enter Tryz.func143, Tryz.ntmps143
  go_wp2
  go_loopw [3, 11] (fun s i wr => ∃ (k q : Nat), k ≤ k0 ∧ i = .int .i64 (k : Int) ∧ s = .int .i64 (q : Int) ∧ Hid (q = pLen (ps.take k)) ∧ q ≤ 3000000 ∧ wr = w) (fun _ i _ => k0 - (intOf i).toNat)
  case atStart => exact ⟨0, 0, by omega, rfl, rfl, by show _ = _; simp [pLen], by omega, rfl⟩
  case round =>
    obtain ⟨k, q, hk, rfl, rfl, hq, hq1, hw⟩ := hrel
    have hw' := hw.symm
    subst hw'
    clear hw
    by_cases hlt : k < k0
    · obtain ⟨p, hp⟩ : ∃ p, ps[k]? = some p := ⟨ps[k]'(by have := HK.out; omega), List.getElem?_eq_getElem _⟩
      obtain ⟨c0, _, _⟩ := HP.out.2 k p hp
      have HQ : Hid (q + p.m = pLen (ps.take (k + 1))) := by show _ = _; rw [take_snocF ps k p hp, pLen_snoc, hq.out]
      have hqm : q + p.m ≤ 3000000 := by have := HQ.out; have := pLen_take ps (k + 1); have := HL.out; omega
      have b1 : (0 : Int) ≤ (k : Int) := by omega
      have b2 : (k : Int) < (k0 : Int) := by omega
      clear hq hp
      go_wp2
      exact ⟨⟨k + 1, q + p.m, by omega, by go_num, by go_num, HQ, hqm, by first | trivial | rfl⟩, by simp [intOf]; omega⟩
    · obtain rfl : k = k0 := by omega
      have HQ : Hid (q = pLen ps) := by show _ = _; rw [hq.out, List.take_of_length_le (by have := HK.out; omega)]
      clear hq
      have HG1 := hideIt (HG.out q hq1)
      clear HG
      go_wp2_with (go_at_call 190; refine HG1.out.mono ?_; rintro e w1 ⟨a1, c1, rfl, hown1, hb1⟩; refine Hid.out ?_)
      refine (show ∀ {p : Prop}, p → Hid p from fun h => h) ?_
      clear HG1
      have HO1 := hideIt hown1
      clear hown1
      go_wp2
      go_loopw [6, 27] (fun v i wr => ∃ (j m : Nat) (a' : Option Addr) (c' : Nat), j ≤ k ∧ i = .int .i64 (j : Int) ∧ v = .slice a' m c' ∧ Hid (m = pLen (ps.take j)) ∧ wr.ownsRow w.heap.size 28 2 (.slice a' m c') m (ecells (pAll (ps.take j))) ∧ Below w.heap.size w wr) (fun _ i _ => k - (intOf i).toNat)
      case atStart => exact ⟨0, 0, a1, c1, by omega, rfl, rfl, by show _ = _; simp [pLen], by simpa [pAll, ecells] using HO1.out, hb1⟩
      case round =>
        obtain ⟨j, m, a', c', hj, rfl, rfl, hm, hown, hb⟩ := hrel
        by_cases hlt2 : j < k
        · obtain ⟨p, hp⟩ : ∃ p, ps[j]? = some p := ⟨ps[j]'(by have := HK.out; omega), List.getElem?_eq_getElem _⟩
          obtain ⟨c0, hes, hnil⟩ := HP.out.2 j p hp
          have c1 : wr.cell? ⟨b, j, none⟩ = some (.slice p.a p.m p.c) := by rw [hb.cell hbw]; exact c0
          have HM : Hid (m + p.m = pLen (ps.take (j + 1))) := by show _ = _; rw [take_snocF ps j p hp, pLen_snoc, hm.out]
          have HA : Hid (ecells (pAll (ps.take (j + 1))) = ecells (pAll (ps.take j)) ++ ecells p.es) := by show _ = _; rw [take_snocF ps j p hp, pAll_snoc, ecells_append]
          have hmp : m + p.m ≤ 3000000 := by have := HM.out; have := pLen_take ps (j + 1); have := HL.out; omega
          have b1 : (0 : Int) ≤ (j : Int) := by omega
          have b2 : (j : Int) < (k : Int) := by omega
          have hesw := (hes.below hb (Nat.le_refl _)).mono hb.size
          have hl2 : (ecells p.es).length = p.m * 2 := by rw [ecells_length, hes.1]
          obtain ⟨pa, pm, pc, pes⟩ := p
          dsimp only at *
          clear hm hp c0 hes
          cases pa with
          | none =>
            obtain ⟨rfl, rfl⟩ := hnil rfl
            have HO2 : Hid (wr.ownsRow w.heap.size 28 2 (.slice a' m c') m (ecells (pAll (ps.take (j + 1))))) := by
              have e0 : pes = [] := List.length_eq_zero_iff.1 hesw.1
              show World.ownsRow _ _ _ _ _ _ _
              rw [HA.out, e0]
              simpa [ecells] using hown
            clear hnil
            go_wp2_with (at_builtin; refine wpList_append_own_none rfl _ _ 31 rfl w.heap.size 28 i0 2 Tryz.underlying31 hi _ _ _ rfl hown rfl ?_)
            exact ⟨⟨j + 1, m, a', c', by omega, by go_num, rfl, HM, HO2.out, hb⟩, by simp [intOf]; omega⟩
          | some ad =>
            have hnews : ∀ q u, (ecells pes)[q]? = some u → wr.cell? (ad.add q) = some u := by
              rcases hesw.2 with h0 | ⟨bb, oo, hbb, _⟩
              · intro q u hq
                have e0 : pes = [] := List.length_eq_zero_iff.1 (by rw [hesw.1]; exact h0)
                rw [e0] at hq
                simp [ecells] at hq
              · simp at hbb
                subst hbb
                exact hesw.news
            clear hnil
            go_wp2_with (at_builtin; refine wpList_append_own _ rfl _ _ 31 rfl w.heap.size 28 i0 _ 2 16 Tryz.underlying31 hi hz0 hz1 hz2 rfl (by decide) _ _ _ rfl hown ad pm pc (ecells pes) rfl hl2 hnews ecells_one (by unfold maxLen; omega) (by omega) hb.size ?_)
            intro v1 w1 hown1 hg1 hn1
            have hb1 : Below w.heap.size w w1 := hb.grown hg1 hb.size (fun q hq => (hown.lt q hq).1)
            rw [← HA.out] at hown1
            obtain ⟨a2, c2, rfl⟩ := own_form hown1
            have HO2 := hideIt hown1
            clear hown1 hown hg1 hn1 hnews
            go_wp2
            exact ⟨⟨j + 1, m + pm, a2, c2, by omega, by go_num, rfl, HM, HO2.out, hb1⟩, by simp [intOf]; omega⟩
        · obtain rfl : j = k := by omega
          have e : ps.take j = ps := List.take_of_length_le (by have := HK.out; omega)
          rw [e] at hown
          have HO2 := hideIt hown
          clear hown e hm
          go_wp2
          go_ret
          exact ⟨a', m, c', rfl, HO2.out, hb⟩
end Go.Proofs.YtpfkfbmghddepaaGreat
namespace Go.Proofs.YtpfkfbmghddepaaGreat
open Go.RowKit

theorem idxOf_le {es : List EdgeV} {e : EdgeV} {k : Nat} (h : es[k]? = some e) : es.idxOf e ≤ k := by
  induction es generalizing k with
  | nil => simp at h
  | cons x es ih =>
    rw [List.idxOf_cons]
    by_cases hx : x = e
    · simp [hx]
    · cases k with
      | zero => simp at h; exact absurd h hx
      | succ k =>
        have h1 := ih (k := k) (by simpa using h)
        have h2 : (x == e) = false := by simpa using hx
        rw [h2]
        simp
        omega
/-- the place of an edge -/
def idxE (es : List EdgeV) (e : EdgeV) : Int := if e ∈ es then (es.idxOf e : Int) else -1
theorem idxE_yes {es : List EdgeV} {e : EdgeV} {k : Nat} (h : es[k]? = some e) (hn : ∀ j, j < k → es[j]? ≠ some e) : idxE es e = (k : Int) := by
  have hm : e ∈ es := List.mem_of_getElem? h
  unfold idxE
  rw [if_pos hm]
  have h1 := List.idxOf_lt_length_iff.2 hm
  have h2 : es[es.idxOf e]? = some e := by rw [List.getElem?_eq_getElem h1, List.getElem_idxOf h1]
  have h3 : ¬ es.idxOf e < k := fun h4 => hn _ h4 h2
  have h5 : es.idxOf e ≤ k := idxOf_le h
  omega
theorem idxE_no {es : List EdgeV} {e : EdgeV} (h : ∀ j, j < es.length → es[j]? ≠ some e) : idxE es e = -1 := by
  unfold idxE
  rw [if_neg]
  intro hm
  obtain ⟨j, hj, rfl⟩ := List.getElem_of_mem hm
  exact h j hj (List.getElem?_eq_getElem hj)
theorem idxE_has (es : List EdgeV) (e : EdgeV) : decide (0 ≤ idxE es e) = hasB es e := by
  unfold idxE hasB
  by_cases h : e ∈ es
  · rw [if_pos h]; simp [h]
  · rw [if_neg h]; simp [h]
set_option maxHeartbeats 1000000 in
theorem Index_any (es : List EdgeV) (e : EdgeV) (n : Nat) (a : Option Addr) (c : Nat) (hn : n ≤ 1048576) (w : World) (h : Es w w.heap.size a n es) :
    Calls Tryz.prog 68 #[.slice a n c, .agg #[.int .i64 e.1, .int .i64 e.2]] w fun x w' => x = .returned (.int .i64 (idxE es e)) ∧ Below w.heap.size w w' := by
  obtain ⟨hlen, hrow⟩ := h
  have HR := hideIt hrow
  clear hrow
  go_enter Tryz.func68, Tryz.ntmps68
  go_wp2
  go_loopw [8] (fun i wr => ∃ k : Nat, k ≤ n ∧ i = .int .i64 (k : Int) ∧ Hid (∀ j, j < k → es[j]? ≠ some e) ∧ Below w.heap.size w wr ∧ wr.cell? ⟨w.heap.size, 0, none⟩ = some (.int .i64 e.1) ∧ wr.cell? ⟨w.heap.size, 1, none⟩ = some (.int .i64 e.2)) (fun i _ => n - (intOf i).toNat)
  case atStart => exact ⟨0, by omega, rfl, fun j hj => by omega, (Below.refl _ _).alloc (Nat.le_refl _) _, by simp, by simp⟩
  case round =>
    obtain ⟨k, hk, rfl, hck, hb, x0, x1⟩ := hrel
    by_cases hlt : k < n
    · rcases HR.out with hz | ⟨b, off, rfl, hbl, hc⟩
      · omega
      · obtain ⟨f, hf⟩ : ∃ f, es[k]? = some f := ⟨es[k]'(by omega), List.getElem?_eq_getElem (by omega)⟩
        obtain ⟨c0, c1⟩ := hc k f hf
        have e0 : wr.cell? ⟨b, off + k * 2, none⟩ = some (.int .i64 f.1) := by rw [hb.cell hbl]; exact c0
        have e1 : wr.cell? ⟨b, off + k * 2 + 1, none⟩ = some (.int .i64 f.2) := by rw [hb.cell hbl]; exact c1
        have b1 : (0 : Int) ≤ (k : Int) := by omega
        have b2 : (k : Int) < (n : Int) := by omega
        by_cases hfe : f = e
        · subst hfe
          have HY := hideIt (idxE_yes hf hck.out)
          clear hf hc c0 c1 hck
          go_wp2
          go_quiet (fail)
          go_wp2
          go_ret
          exact ⟨by rw [HY.out]; rfl, below_drewN hb _⟩
        · have HN : Hid (∀ j, j < k + 1 → es[j]? ≠ some e) := fun j hj => by
            by_cases hjk : j = k
            · subst hjk; rw [hf]; exact fun hh => hfe (Option.some.inj hh)
            · exact hck.out j (by omega)
          clear hf hc c0 c1 hck
          by_cases h1 : e.1 = f.1
          · have h2 : ¬ e.2 = f.2 := fun h2 => hfe (Prod.ext h1.symm h2.symm)
            rw [← h1] at e0
            have d2 : (e.2 == f.2) = false := by simpa using h2
            clear hfe
            go_wp2
            go_quiet (fail)
            go_wp2
            exact ⟨⟨k + 1, by omega, by go_num, HN, below_drewN hb _, x0, x1⟩, by simp [intOf]; omega⟩
          · have d1 : (e.1 == f.1) = false := by simpa using h1
            clear hfe
            go_wp2
            go_quiet (fail)
            go_wp2
            exact ⟨⟨k + 1, by omega, by go_num, HN, below_drewN hb _, x0, x1⟩, by simp [intOf]; omega⟩
    · have HN := hideIt (idxE_no (es := es) (e := e) (fun j hj => hck.out j (by omega)))
      clear hck
      go_wp2
      go_ret
      exact ⟨by rw [HN.out]; rfl, hb⟩
theorem Contains_any (es : List EdgeV) (e : EdgeV) (n : Nat) (a : Option Addr) (c : Nat) (hn : n ≤ 1048576) (w : World) (h : Es w w.heap.size a n es) :
    Calls Tryz.prog 189 #[.slice a n c, .agg #[.int .i64 e.1, .int .i64 e.2]] w fun x w' => x = .returned (.bool (hasB es e)) ∧ Below w.heap.size w w' := by
  have HT := hideIt (Index_any es e n a c hn (w.alloc (.cells #[.int .i64 e.1, .int .i64 e.2] 28)) ((h.alloc (Nat.le_refl _) _).mono (by simp)))
  have HI := idxE_has es e
  clear h
  generalize idxE es e = r at HT HI
  generalize hasB es e = q at HI
  go_enter Tryz.func189, Tryz.ntmps189
  go_wp2_with (go_at_call 68; refine HT.out.mono ?_; rintro e w1 ⟨rfl, hb1⟩)
  go_ret
  exact ⟨rfl, ((Below.refl _ _).alloc (Nat.le_refl _) _).trans (hb1.mono (by simp))⟩
theorem iHasEdge_any (N : Int) (es : List EdgeV) (e : EdgeV) (n : Nat) (a : Option Addr) (c : Nat) (hn : n ≤ 1048576) (w : World) (h : Es w w.heap.size a n es) :
    Calls Tryz.prog 141 #[.agg #[.int .i64 N, .slice a n c], .agg #[.int .i64 e.1, .int .i64 e.2]] w fun x w' => x = .returned (.bool (hasB es e)) ∧ Below w.heap.size w w' := by
  have HT := hideIt (Contains_any es e n a c hn ((w.alloc (.cells #[.int .i64 N, .slice a n c] 33)).alloc (.cells #[.int .i64 e.1, .int .i64 e.2] 28)) (((h.alloc (Nat.le_refl _) _).alloc (by simp) _).mono (by simp; omega)))
  clear h
  go_enter Tryz.func141, Tryz.ntmps141
  go_wp2_with (go_at_call 189; refine HT.out.mono ?_; rintro e w1 ⟨rfl, hb1⟩)
  go_ret
  exact ⟨rfl, (((Below.refl _ _).alloc (Nat.le_refl _) _).alloc (by simp) _).trans (hb1.mono (by simp; omega))⟩
end Go.Proofs.YtpfkfbmghddepaaGreat
namespace Go.Proofs.YtpfkfbmghddepaaGreat
open Go.RowKit

/-- the answer of AddEdge, TakeEdge: a graph of the answer's own, or nothing -/
def GAns (w : World) (N : Int) (o : Option (List EdgeV)) (e : Ending) (w' : World) : Prop :=
  ∃ a m c, e = .returned (.tuple #[.agg #[.int .i64 (if o.isSome then N else 0), .slice a m c], .bool o.isSome]) ∧ w'.ownsRow w.heap.size 28 2 (.slice a m c) m (ecells (o.getD [])) ∧ Below w.heap.size w w'
/-- the world behind the boxes -/
def w3g (w : World) (N : Int) (a : Option Addr) (n c : Nat) (f : EdgeV) : World :=
  ((w.alloc (.cells #[.int .i64 N, .slice a n c] 33)).alloc (.cells #[.int .i64 f.1, .int .i64 f.2] 28)).alloc (.cells #[.int .i64 0, .slice none 0 0] 33)
theorem w3g_size (w : World) (N : Int) (a : Option Addr) (n c : Nat) (f : EdgeV) : (w3g w N a n c f).heap.size = w.heap.size + 3 := by simp [w3g]
theorem w3g_below (w : World) (N : Int) (a : Option Addr) (n c : Nat) (f : EdgeV) : Below w.heap.size w (w3g w N a n c f) := (((Below.refl _ _).alloc (Nat.le_refl _) _).alloc (by simp) _).alloc (by simp; omega) _
/-- what the boxes hold, whatever has come since -/
structure In3 (w : World) (N : Int) (a : Option Addr) (n c : Nat) (f : EdgeV) (u : World) : Prop where
  good : Good (w3g w N a n c f) u
theorem In3.cells {w : World} {N : Int} {a : Option Addr} {n c : Nat} {f : EdgeV} {u : World} (h : In3 w N a n c f u) :
    (u.cell? ⟨w.heap.size, 0, none⟩ = some (.int .i64 N) ∧ u.cell? ⟨w.heap.size, 1, none⟩ = some (.slice a n c)) ∧ (u.cell? ⟨w.heap.size + 1, 0, none⟩ = some (.int .i64 f.1) ∧ u.cell? ⟨w.heap.size + 1, 1, none⟩ = some (.int .i64 f.2)) := by
  have hs := w3g_size w N a n c f
  refine ⟨⟨?_, ?_⟩, ?_, ?_⟩
  · rw [h.good.cell (by omega)]; simp [w3g, go_sem]
  · rw [h.good.cell (by omega)]; simp [w3g, go_sem]
  · rw [h.good.cell (by omega)]; simp [w3g, go_sem]
  · rw [h.good.cell (by omega)]; simp [w3g, go_sem]
theorem In3.out {w : World} {N : Int} {a : Option Addr} {n c : Nat} {f : EdgeV} {u : World} (h : In3 w N a n c f u) :
    (u.cell? ⟨w.heap.size + 1 + 1, 0, none⟩ = some (.int .i64 0) ∧ u.cell? ⟨w.heap.size + 1 + 1, 1, none⟩ = some (.slice none 0 0)) ∧ (u.frozen? ⟨w.heap.size + 1 + 1, 0, none⟩ = false ∧ u.frozen? ⟨w.heap.size + 1 + 1, 1, none⟩ = false) := by
  have hs := w3g_size w N a n c f
  refine ⟨⟨?_, ?_⟩, ?_, ?_⟩
  · rw [h.good.cell (by omega)]; simp [w3g, go_sem]
  · rw [h.good.cell (by omega)]; simp [w3g, go_sem]
  · rw [Below.frozen h.good (by show w.heap.size + 1 + 1 < _; omega)]; simp [w3g, go_sem]
  · rw [Below.frozen h.good (by show w.heap.size + 1 + 1 < _; omega)]; simp [w3g, go_sem]
theorem In3.up {w : World} {N : Int} {a : Option Addr} {n c : Nat} {f : EdgeV} {u v : World} (h : In3 w N a n c f u) (hb : Below u.heap.size u v) : In3 w N a n c f v := ⟨h.good.up hb⟩
theorem In3.start (w : World) (N : Int) (a : Option Addr) (n c : Nat) (f : EdgeV) : In3 w N a n c f (w3g w N a n c f) := ⟨Good.refl _⟩
theorem In3.below {w : World} {N : Int} {a : Option Addr} {n c : Nat} {f : EdgeV} {u : World} (h : In3 w N a n c f u) : Below w.heap.size w u := (w3g_below w N a n c f).trans (Below.mono h.good (by rw [w3g_size]; omega))
theorem In3.size {w : World} {N : Int} {a : Option Addr} {n c : Nat} {f : EdgeV} {u : World} (h : In3 w N a n c f u) : w.heap.size + 3 ≤ u.heap.size := by have := h.good.size; rw [w3g_size] at this; exact this
theorem In3.drew {w : World} {N : Int} {a : Option Addr} {n c : Nat} {f : EdgeV} {u : World} (h : In3 w N a n c f u) : In3 w N a n c f u.drew := ⟨h.good.drew⟩
theorem In3.cellsSet {w : World} {N : Int} {a : Option Addr} {n c : Nat} {f : EdgeV} {u : World} (h : In3 w N a n c f u) (v0 v1 : Value) :
    ((((u.setCell ⟨w.heap.size + 1 + 1, 0, none⟩ v0).setCell ⟨w.heap.size + 1 + 1, 1, none⟩ v1)).cell? ⟨w.heap.size, 0, none⟩ = some (.int .i64 N) ∧ (((u.setCell ⟨w.heap.size + 1 + 1, 0, none⟩ v0).setCell ⟨w.heap.size + 1 + 1, 1, none⟩ v1)).cell? ⟨w.heap.size, 1, none⟩ = some (.slice a n c)) ∧
      ((((u.setCell ⟨w.heap.size + 1 + 1, 0, none⟩ v0).setCell ⟨w.heap.size + 1 + 1, 1, none⟩ v1)).cell? ⟨w.heap.size + 1, 0, none⟩ = some (.int .i64 f.1) ∧ (((u.setCell ⟨w.heap.size + 1 + 1, 0, none⟩ v0).setCell ⟨w.heap.size + 1 + 1, 1, none⟩ v1)).cell? ⟨w.heap.size + 1, 1, none⟩ = some (.int .i64 f.2)) := by
  obtain ⟨⟨k0, k1⟩, k2, k3⟩ := h.cells
  refine ⟨⟨?_, ?_⟩, ?_, ?_⟩
  · rw [set_other (by omega), set_other (by omega)]; exact k0
  · rw [set_other (by omega), set_other (by omega)]; exact k1
  · rw [set_other (by omega), set_other (by omega)]; exact k2
  · rw [set_other (by omega), set_other (by omega)]; exact k3
theorem gans_yes {w u : World} {N : Int} {a : Option Addr} {n c : Nat} {f : EdgeV} (h : In3 w N a n c f u) {o : Option (List EdgeV)} {gs : List EdgeV} (ho : o = some gs) {B : Nat} {a' : Option Addr} {m' c' : Nat}
    (hB : w.heap.size + 3 ≤ B) (hown : u.ownsRow B 28 2 (.slice a' m' c') m' (ecells gs)) :
    GAns w N o (.returned (.tuple #[.agg #[.int .i64 N, .slice a' m' c'], .bool true])) ((u.setCell ⟨w.heap.size + 1 + 1, 0, none⟩ (.int .i64 N)).setCell ⟨w.heap.size + 1 + 1, 1, none⟩ (.slice a' m' c')) := by
  subst ho
  exact ⟨a', m', c', rfl, own_mono (own_setLow (own_setLow hown _ 0 _ (by omega)) _ 1 _ (by omega)) (by omega), (h.below.setCell (by show _ ≤ w.heap.size + 1 + 1; omega) _).setCell (by show _ ≤ w.heap.size + 1 + 1; omega) _⟩
theorem Es.take {w : World} {B : Nat} {a : Option Addr} {n : Nat} {es : List EdgeV} (h : Es w B a n es) {k : Nat} (hk : k ≤ n) : Es w B a k (es.take k) := by
  have hl := h.1
  refine ⟨by rw [List.length_take]; omega, ?_⟩
  rcases h.2 with h0 | ⟨b, off, ha, hb, hc⟩
  · exact .inl (by omega)
  · refine .inr ⟨b, off, ha, hb, fun j e he => hc j e ?_⟩
    have hj : j < k := by have := (List.getElem?_eq_some_iff.1 he).1; rw [List.length_take] at this; omega
    rw [List.getElem?_take_of_lt hj] at he
    exact he
theorem Es.drop {w : World} {B b off : Nat} {n : Nat} {es : List EdgeV} (h : Es w B (some ⟨b, off, none⟩) n es) {k : Nat} (hk : k ≤ n) : Es w B (some ⟨b, off + k * 2, none⟩) (n - k) (es.drop k) := by
  have hl := h.1
  refine ⟨by rw [List.length_drop]; omega, ?_⟩
  rcases h.2 with h0 | ⟨b', off', ha, hb, hc⟩
  · exact .inl (by omega)
  · simp at ha
    obtain ⟨rfl, rfl⟩ := ha
    refine .inr ⟨b, off + k * 2, rfl, hb, fun j e he => ?_⟩
    rw [List.getElem?_drop] at he
    have h1 := hc (k + j) e he
    rw [show off + k * 2 + j * 2 = off + (k + j) * 2 by omega]
    exact h1
theorem Es.none_of {w : World} {B : Nat} {a : Option Addr} {es : List EdgeV} (h : es.length = 0) : Es w B a 0 es := ⟨h, .inl rfl⟩
theorem Es.single (w : World) (f : EdgeV) : Es (w.alloc (.cells #[.int .i64 f.1, .int .i64 f.2] 28)) (w.alloc (.cells #[.int .i64 f.1, .int .i64 f.2] 28)).heap.size (some ⟨w.heap.size, 0, none⟩) 1 [f] := by
  refine ⟨rfl, .inr ⟨w.heap.size, 0, rfl, by simp, fun j e he => ?_⟩⟩
  cases j with
  | zero => simp at he; subst he; simp
  | succ j => simp at he
theorem gans_no {w u : World} {N : Int} {a : Option Addr} {n c : Nat} {f : EdgeV} (h : In3 w N a n c f u) {o : Option (List EdgeV)} (ho : o = none) :
    GAns w N o (.returned (.tuple #[.agg #[.int .i64 0, .slice none 0 0], .bool false])) ((u.setCell ⟨w.heap.size + 1 + 1, 0, none⟩ (.int .i64 0)).setCell ⟨w.heap.size + 1 + 1, 1, none⟩ (.slice none 0 0)) := by
  subst ho
  exact ⟨none, 0, 0, rfl, World.ownsRow_nil _ _ _ _, (h.below.setCell (by show _ ≤ w.heap.size + 1 + 1; omega) _).setCell (by show _ ≤ w.heap.size + 1 + 1; omega) _⟩
set_option maxRecDepth 100000 in
set_option maxHeartbeats 4000000 in
theorem iAddEdge_any (N : Int) (es : List EdgeV) (f : EdgeV) (n : Nat) (a : Option Addr) (c : Nat) (hsl : Sl a n c) (hn : n ≤ 1048576) (w : World) (h : Es w w.heap.size a n es) :
    Calls Tryz.prog 73 #[.agg #[.int .i64 N, .slice a n c], .agg #[.int .i64 f.1, .int .i64 f.2]] w fun e w' => GAns w N (addE N es f) e w' := by
  have hA : Hid (∀ u, In3 w N a n c f u → Es u u.heap.size a n es) := fun u hu => h.up hu.below
  have HGO : Hid (∀ u, In3 w N a n c f u → Calls Tryz.prog 78 #[.agg #[.int .i64 N, .slice a n c]] u fun e v => e = .returned (.bool (gB N es)) ∧ In3 w N a n c f v) := fun u hu =>
    (iGraphOk_any N es n a c hn u (hA.out u hu)).mono fun _ _ ⟨he, hb⟩ => ⟨he, hu.up hb⟩
  have HEO : Hid (∀ u, In3 w N a n c f u → Calls Tryz.prog 140 #[.int .i64 N, .agg #[.int .i64 f.1, .int .i64 f.2]] u fun e v => e = .returned (.bool (eB N f)) ∧ In3 w N a n c f v) := fun u hu =>
    (iEdgeOk_any N f u).mono fun _ _ ⟨he, hb⟩ => ⟨he, hu.up hb⟩
  have HHE : Hid (∀ u, In3 w N a n c f u → Calls Tryz.prog 141 #[.agg #[.int .i64 N, .slice a n c], .agg #[.int .i64 f.1, .int .i64 f.2]] u fun e v => e = .returned (.bool (hasB es f)) ∧ In3 w N a n c f v) := fun u hu =>
    (iHasEdge_any N es f n a c hn u (hA.out u hu)).mono fun _ _ ⟨he, hb⟩ => ⟨he, hu.up hb⟩
  have S1 := In3.start w N a n c f
  have HK : Hid (∀ u, In3 w N a n c f u → (u.cell? ⟨w.heap.size, 0, none⟩ = some (.int .i64 N) ∧ u.cell? ⟨w.heap.size, 1, none⟩ = some (.slice a n c)) ∧ (u.cell? ⟨w.heap.size + 1, 0, none⟩ = some (.int .i64 f.1) ∧ u.cell? ⟨w.heap.size + 1, 1, none⟩ = some (.int .i64 f.2))) := fun u hu => hu.cells
  cases hG : gB N es with
  | false =>
    rw [hG] at HGO
    have HO := hideIt (show addE N es f = none by unfold addE; rw [hG, if_neg (by simp)])
    clear hG HEO HHE hsl h hA
    go_enter Tryz.func73, Tryz.ntmps73
    go_wp2_with (go_at_call 78; refine (HGO.out _ S1).mono ?_; rintro e w4 ⟨rfl, S4⟩; refine Hid.out ?_)
    refine (show ∀ {p : Prop}, p → Hid p from fun h => h) ?_
    obtain ⟨⟨r0, r1⟩, r2, r3⟩ := S4.out
    have s4 := S4.size
    go_wp2
    exact bodyPost_ret (v := .tuple #[.agg #[.int .i64 0, .slice none 0 0], .bool false]) (by simp [results, Tryz.results73, go_sem, r0, r1]) rfl (gans_no S4 HO.out)
  | true =>
    rw [hG] at HGO
    cases hE : eB N f with
    | false =>
      rw [hE] at HEO
      have HO := hideIt (show addE N es f = none by unfold addE; rw [hE, if_neg (by simp)])
      clear hG hE HHE hsl h hA
      go_enter Tryz.func73, Tryz.ntmps73
      go_wp2_with (go_at_call 78; refine (HGO.out _ S1).mono ?_; rintro e w4 ⟨rfl, S4⟩; refine Hid.out ?_)
      refine (show ∀ {p : Prop}, p → Hid p from fun h => h) ?_
      obtain ⟨⟨k0, k1⟩, k2, k3⟩ := HK.out _ S4
      go_wp2_with (go_at_call 140; refine (HEO.out _ S4).mono ?_; rintro e w5 ⟨rfl, S5⟩; refine Hid.out ?_)
      refine (show ∀ {p : Prop}, p → Hid p from fun h => h) ?_
      obtain ⟨⟨r0, r1⟩, r2, r3⟩ := S5.out
      have s5 := S5.size
      clear k0 k1 k2 k3
      go_wp2
      exact bodyPost_ret (v := .tuple #[.agg #[.int .i64 0, .slice none 0 0], .bool false]) (by simp [results, Tryz.results73, go_sem, r0, r1]) rfl (gans_no S5 HO.out)
    | true =>
      rw [hE] at HEO
      cases hH : hasB es f with
      | true =>
        rw [hH] at HHE
        have HO := hideIt (show addE N es f = none by unfold addE; rw [hH, if_neg (by simp)])
        clear hG hE hH hsl h hA
        go_enter Tryz.func73, Tryz.ntmps73
        go_wp2_with (go_at_call 78; refine (HGO.out _ S1).mono ?_; rintro e w4 ⟨rfl, S4⟩; refine Hid.out ?_)
        refine (show ∀ {p : Prop}, p → Hid p from fun h => h) ?_
        obtain ⟨⟨k0, k1⟩, k2, k3⟩ := HK.out _ S4
        go_wp2_with (go_at_call 140; refine (HEO.out _ S4).mono ?_; rintro e w5 ⟨rfl, S5⟩; refine Hid.out ?_)
        refine (show ∀ {p : Prop}, p → Hid p from fun h => h) ?_
        clear k0 k1 k2 k3
        obtain ⟨⟨k0, k1⟩, k2, k3⟩ := HK.out _ S5
        go_wp2_with (go_at_call 141; refine (HHE.out _ S5).mono ?_; rintro e w6 ⟨rfl, S6⟩; refine Hid.out ?_)
        refine (show ∀ {p : Prop}, p → Hid p from fun h => h) ?_
        obtain ⟨⟨r0, r1⟩, r2, r3⟩ := S6.out
        have s6 := S6.size
        clear k0 k1 k2 k3
        go_wp2
        exact bodyPost_ret (v := .tuple #[.agg #[.int .i64 0, .slice none 0 0], .bool false]) (by simp [results, Tryz.results73, go_sem, r0, r1]) rfl (gans_no S6 HO.out)
      | false =>
        rw [hH] at HHE
        have HO := hideIt (show addE N es f = some (putE es f) by unfold addE; rw [hG, hE, hH, if_pos (by simp)])
        have hasc := asc_of_chk (gB_chk hG).2.1
        have hnot : f ∉ es := fun hm => by unfold hasB at hH; simp [hm] at hH
        have HBS : Hid (∀ u, In3 w N a n c f u → Calls Tryz.prog 142 #[.slice a n c, .agg #[.int .i64 f.1, .int .i64 f.2], .func (.func 111) #[] #[]] u fun x v => ∃ (p : Nat) (fb : Bool), x = .returned (.tuple #[.int .i64 (p : Int), .bool fb]) ∧ Hid (Split es f p) ∧ In3 w N a n c f v) := fun u hu =>
          (BSF_any es hasc f n a c hn u (hA.out u hu)).mono fun _ _ ⟨p, fb, he, hs, hb⟩ => ⟨p, fb, he, hs, hu.up hb⟩
        have HN := hideIt hnot
        have HLn : Hid (es.length = n) := h.1
        clear hG hE hH h hasc hnot
        go_enter Tryz.func73, Tryz.ntmps73
        go_wp2_with (go_at_call 78; refine (HGO.out _ S1).mono ?_; rintro e w4 ⟨rfl, S4⟩; refine Hid.out ?_)
        refine (show ∀ {p : Prop}, p → Hid p from fun h => h) ?_
        obtain ⟨⟨k0, k1⟩, k2, k3⟩ := HK.out _ S4
        go_wp2_with (go_at_call 140; refine (HEO.out _ S4).mono ?_; rintro e w5 ⟨rfl, S5⟩; refine Hid.out ?_)
        refine (show ∀ {p : Prop}, p → Hid p from fun h => h) ?_
        clear k0 k1 k2 k3
        obtain ⟨⟨k0, k1⟩, k2, k3⟩ := HK.out _ S5
        go_wp2_with (go_at_call 141; refine (HHE.out _ S5).mono ?_; rintro e w6 ⟨rfl, S6⟩; refine Hid.out ?_)
        refine (show ∀ {p : Prop}, p → Hid p from fun h => h) ?_
        clear k0 k1 k2 k3
        obtain ⟨⟨k0, k1⟩, k2, k3⟩ := HK.out _ S6
        go_wp2_with (go_at_call 142; refine (HBS.out _ S6).mono ?_; rintro e w7 ⟨p, fb, rfl, hsp, S7⟩; refine Hid.out ?_)
        refine (show ∀ {p : Prop}, p → Hid p from fun h => h) ?_
        clear k0 k1 k2 k3 S4 S5 S6 S1 HGO HEO HHE HBS
        have hpn : p ≤ n := by have := hsp.out.1; have := HLn.out; omega
        obtain ⟨hnc, hcm, hform⟩ := hsl
        unfold maxLen at hcm
        have HES := hideIt (hA.out w7 S7)
        have z7 := S7.size
        have HES := hideIt (hA.out w7 S7)
        have z7 := S7.size
        have HES := hideIt (hA.out w7 S7)
        have z7 := S7.size
        rcases hform with ⟨rfl, rfl, rfl⟩ | ⟨b, off, rfl⟩
        · obtain rfl : p = 0 := by omega
          have S7d := S7.drew
          have T1 : In3 w N none 0 0 f (w7.alloc (.cells #[.int .i64 f.1, .int .i64 f.2] 28)).drew := (S7.up ((Below.refl _ _).alloc (Nat.le_refl _) _)).drew
          have T2b : Below w7.heap.size w7 ((w7.alloc (.cells #[.int .i64 f.1, .int .i64 f.2] 28)).alloc (.cells #[.slice none 0 0, .slice (some ⟨w7.heap.size, 0, none⟩) 1 1, .slice none 0 0] 31)).drew := (((Below.refl _ _).alloc (Nat.le_refl _) _).alloc (by simp) _).drew
          have T2 := S7.up T2b
          have HCc : Hid (Calls Tryz.prog 143 #[.slice (some ⟨w7.heap.size + 1, 0, none⟩) 3 3] ((w7.alloc (.cells #[.int .i64 f.1, .int .i64 f.2] 28)).alloc (.cells #[.slice none 0 0, .slice (some ⟨w7.heap.size, 0, none⟩) 1 1, .slice none 0 0] 31)).drew
              fun e v => ∃ a' m' c', e = .returned (.slice a' m' c') ∧ Hid (v.ownsRow (w7.heap.size + 2) 28 2 (.slice a' m' c') m' (ecells (putE es f))) ∧ In3 w N none 0 0 f v) := by
            have e0 : es = [] := List.length_eq_zero_iff.1 HLn.out
            refine (Concat_any [⟨none, 0, 0, []⟩, ⟨some ⟨w7.heap.size, 0, none⟩, 1, 1, [f]⟩, ⟨none, 0, 0, []⟩] (w7.heap.size + 1) 3 rfl (by omega) _ ⟨by simp, fun j q hq => ?_⟩ (by simp [pLen])).mono fun e v ⟨a', m', c', he, ho, hb⟩ => ⟨a', m', c', he, ?_, T2.up hb⟩
            · rcases j with _ | _ | _ | j
              · simp at hq; subst hq
                exact ⟨by simp [go_sem], Es.none_of rfl, fun _ => ⟨rfl, rfl⟩⟩
              · simp at hq; subst hq
                refine ⟨by simp [go_sem], ?_, fun h => by cases h⟩
                exact (Es.single w7 f).up (((Below.refl _ _).alloc (Nat.le_refl _) _).drew)
              · simp at hq; subst hq
                exact ⟨by simp [go_sem], Es.none_of rfl, fun _ => ⟨rfl, rfl⟩⟩
              · simp at hq
            · have hp : pAll [⟨none, 0, 0, []⟩, ⟨some ⟨w7.heap.size, 0, none⟩, 1, 1, [f]⟩, ⟨none, 0, 0, []⟩] = putE es f := by rw [e0]; simp [pAll, putE]
              rw [hp] at ho
              exact own_mono ho (by simp)
          clear hA HN
          go_wp2
          go_region_held3 (fun u => (u.cell? ⟨w.heap.size, 0, none⟩ = some (.int .i64 N) ∧ u.cell? ⟨w.heap.size, 1, none⟩ = some (.slice none 0 0)) ∧ (u.cell? ⟨w.heap.size + 1, 0, none⟩ = some (.int .i64 f.1) ∧ u.cell? ⟨w.heap.size + 1, 1, none⟩ = some (.int .i64 f.2)))
            (first | exact S8.cellsSet _ _ | exact HK.out _ S8 | exact HK.out _ T2 | exact HK.out _ T1 | exact HK.out _ S7d)
            ((go_at_call 143; refine HCc.out.mono ?_; rintro e w8 ⟨a', m', c', rfl, hown8, S8⟩; obtain ⟨⟨r0, r1⟩, r2, r3⟩ := S8.out))
          all_goals
            go_wp2
            exact bodyPost_ret (v := .tuple #[.agg #[.int .i64 N, .slice a' m' c'], .bool true]) (by simp [results, Tryz.results73, go_sem, r0, r1]) rfl (gans_yes S8 HO.out (by omega) hown8.out)
        · by_cases hcp : c = p
          · obtain rfl : n = p := by omega
            subst hcp
            have S7d := S7.drew
            have b1 : (0 : Int) ≤ (c : Int) := by omega
            have T1 : In3 w N (some ⟨b, off, none⟩) c c f (w7.alloc (.cells #[.int .i64 f.1, .int .i64 f.2] 28)).drew := (S7.up ((Below.refl _ _).alloc (Nat.le_refl _) _)).drew
            have T2b : Below w7.heap.size w7 ((w7.alloc (.cells #[.int .i64 f.1, .int .i64 f.2] 28)).alloc (.cells #[.slice (some ⟨b, off, none⟩) c c, .slice (some ⟨w7.heap.size, 0, none⟩) 1 1, .slice (some ⟨b, off, none⟩) 0 0] 31)).drew := (((Below.refl _ _).alloc (Nat.le_refl _) _).alloc (by simp) _).drew
            have T2 := S7.up T2b
            have HCc : Hid (Calls Tryz.prog 143 #[.slice (some ⟨w7.heap.size + 1, 0, none⟩) 3 3] ((w7.alloc (.cells #[.int .i64 f.1, .int .i64 f.2] 28)).alloc (.cells #[.slice (some ⟨b, off, none⟩) c c, .slice (some ⟨w7.heap.size, 0, none⟩) 1 1, .slice (some ⟨b, off, none⟩) 0 0] 31)).drew
                fun e v => ∃ a' m' c', e = .returned (.slice a' m' c') ∧ Hid (v.ownsRow (w7.heap.size + 2) 28 2 (.slice a' m' c') m' (ecells (putE es f))) ∧ In3 w N (some ⟨b, off, none⟩) c c f v) := by
              have hE2 := HES.out.up T2b
              refine (Concat_any [⟨some ⟨b, off, none⟩, c, c, es.take c⟩, ⟨some ⟨w7.heap.size, 0, none⟩, 1, 1, [f]⟩, ⟨some ⟨b, off, none⟩, 0, 0, es.drop c⟩] (w7.heap.size + 1) 3 rfl (by omega) _ ⟨by simp, fun j q hq => ?_⟩ (by simp [pLen]; omega)).mono fun e v ⟨a', m', c', he, ho, hb⟩ => ⟨a', m', c', he, ?_, T2.up hb⟩
              · rcases j with _ | _ | _ | j
                · simp at hq; subst hq
                  exact ⟨by simp [go_sem], hE2.take (Nat.le_refl _), fun h => by cases h⟩
                · simp at hq; subst hq
                  refine ⟨by simp [go_sem], ?_, fun h => by cases h⟩
                  exact (Es.single w7 f).up (((Below.refl _ _).alloc (Nat.le_refl _) _).drew)
                · simp at hq; subst hq
                  exact ⟨by simp [go_sem], Es.none_of (by rw [List.length_drop]; have := HLn.out; omega), fun h => by cases h⟩
                · simp at hq
              · have hp : pAll [⟨some ⟨b, off, none⟩, c, c, es.take c⟩, ⟨some ⟨w7.heap.size, 0, none⟩, 1, 1, [f]⟩, ⟨some ⟨b, off, none⟩, 0, 0, es.drop c⟩] = putE es f := by rw [put_split hsp.out HN.out]; simp [pAll]
                rw [hp] at ho
                exact own_mono ho (by simp)
            clear hA HN
            go_wp2
            go_region_held3 (fun u => (u.cell? ⟨w.heap.size, 0, none⟩ = some (.int .i64 N) ∧ u.cell? ⟨w.heap.size, 1, none⟩ = some (.slice (some ⟨b, off, none⟩) c c)) ∧ (u.cell? ⟨w.heap.size + 1, 0, none⟩ = some (.int .i64 f.1) ∧ u.cell? ⟨w.heap.size + 1, 1, none⟩ = some (.int .i64 f.2)))
              (first | exact S8.cellsSet _ _ | exact HK.out _ S8 | exact HK.out _ T2 | exact HK.out _ T1 | exact HK.out _ S7d)
              ((go_at_call 143; refine HCc.out.mono ?_; rintro e w8 ⟨a', m', c', rfl, hown8, S8⟩; obtain ⟨⟨r0, r1⟩, r2, r3⟩ := S8.out))
            all_goals
              go_wp2
              exact bodyPost_ret (v := .tuple #[.agg #[.int .i64 N, .slice a' m' c'], .bool true]) (by simp [results, Tryz.results73, go_sem, r0, r1]) rfl (gans_yes S8 HO.out (by omega) hown8.out)
          · have S7d := S7.drew
            have b1 : (0 : Int) ≤ (p : Int) := by omega
            have b2 : (p : Int) ≤ (n : Int) := by omega
            have b3 : (n : Int) ≤ (c : Int) := by omega
            have b4 : (p : Int) ≤ (c : Int) := by omega
            have T1 : In3 w N (some ⟨b, off, none⟩) n c f (w7.alloc (.cells #[.int .i64 f.1, .int .i64 f.2] 28)).drew := (S7.up ((Below.refl _ _).alloc (Nat.le_refl _) _)).drew
            have T2b : Below w7.heap.size w7 ((w7.alloc (.cells #[.int .i64 f.1, .int .i64 f.2] 28)).alloc (.cells #[.slice (some ⟨b, off, none⟩) p c, .slice (some ⟨w7.heap.size, 0, none⟩) 1 1, .slice (some ⟨b, off + p * 2, none⟩) (n - p) (c - p)] 31)).drew := (((Below.refl _ _).alloc (Nat.le_refl _) _).alloc (by simp) _).drew
            have T2 := S7.up T2b
            have HCc : Hid (Calls Tryz.prog 143 #[.slice (some ⟨w7.heap.size + 1, 0, none⟩) 3 3] ((w7.alloc (.cells #[.int .i64 f.1, .int .i64 f.2] 28)).alloc (.cells #[.slice (some ⟨b, off, none⟩) p c, .slice (some ⟨w7.heap.size, 0, none⟩) 1 1, .slice (some ⟨b, off + p * 2, none⟩) (n - p) (c - p)] 31)).drew
                fun e v => ∃ a' m' c', e = .returned (.slice a' m' c') ∧ Hid (v.ownsRow (w7.heap.size + 2) 28 2 (.slice a' m' c') m' (ecells (putE es f))) ∧ In3 w N (some ⟨b, off, none⟩) n c f v) := by
              have hE2 := HES.out.up T2b
              refine (Concat_any [⟨some ⟨b, off, none⟩, p, c, es.take p⟩, ⟨some ⟨w7.heap.size, 0, none⟩, 1, 1, [f]⟩, ⟨some ⟨b, off + p * 2, none⟩, n - p, c - p, es.drop p⟩] (w7.heap.size + 1) 3 rfl (by omega) _ ⟨by simp, fun j q hq => ?_⟩ (by simp [pLen]; omega)).mono fun e v ⟨a', m', c', he, ho, hb⟩ => ⟨a', m', c', he, ?_, T2.up hb⟩
              · rcases j with _ | _ | _ | j
                · simp at hq; subst hq
                  exact ⟨by simp [go_sem], hE2.take hpn, fun h => by cases h⟩
                · simp at hq; subst hq
                  refine ⟨by simp [go_sem], ?_, fun h => by cases h⟩
                  exact (Es.single w7 f).up (((Below.refl _ _).alloc (Nat.le_refl _) _).drew)
                · simp at hq; subst hq
                  exact ⟨by simp [go_sem], hE2.drop hpn, fun h => by cases h⟩
                · simp at hq
              · have hp : pAll [⟨some ⟨b, off, none⟩, p, c, es.take p⟩, ⟨some ⟨w7.heap.size, 0, none⟩, 1, 1, [f]⟩, ⟨some ⟨b, off + p * 2, none⟩, n - p, c - p, es.drop p⟩] = putE es f := by rw [put_split hsp.out HN.out]; simp [pAll]
                rw [hp] at ho
                exact own_mono ho (by simp)
            clear hA HN
            go_wp2
            go_region_held3 (fun u => (u.cell? ⟨w.heap.size, 0, none⟩ = some (.int .i64 N) ∧ u.cell? ⟨w.heap.size, 1, none⟩ = some (.slice (some ⟨b, off, none⟩) n c)) ∧ (u.cell? ⟨w.heap.size + 1, 0, none⟩ = some (.int .i64 f.1) ∧ u.cell? ⟨w.heap.size + 1, 1, none⟩ = some (.int .i64 f.2)))
              (first | exact S8.cellsSet _ _ | exact HK.out _ S8 | exact HK.out _ T2 | exact HK.out _ T1 | exact HK.out _ S7d)
              ((go_at_call 143; refine HCc.out.mono ?_; rintro e w8 ⟨a', m', c', rfl, hown8, S8⟩; obtain ⟨⟨r0, r1⟩, r2, r3⟩ := S8.out))
            all_goals
              go_wp2
              exact bodyPost_ret (v := .tuple #[.agg #[.int .i64 N, .slice a' m' c'], .bool true]) (by simp [results, Tryz.results73, go_sem, r0, r1]) rfl (gans_yes S8 HO.out (by omega) hown8.out)
end Go.Proofs.YtpfkfbmghddepaaGreat
namespace Go.Proofs.YtpfkfbmghddepaaGreat
open Go.RowKit

/-- the edge that comes -/
def cmL (N : Int) (ls : List Ld) (f : EdgeV) : Ld := ⟨f.1, f.2, 0, decide (trI (gndT N ls) f.1 ≠ trI (gndT N ls) f.2)⟩
/-- WebAdd -/
noncomputable def waO (N : Int) (ls : List Ld) (f : EdgeV) : Option (List Ld) := @ite _ (WOk N ls ∧ eB N f = true ∧ hasB (gE ls) f = false) (Classical.propDecidable _) (some (putL ls (cmL N ls f))) none
theorem waO_yes {N : Int} {ls : List Ld} {f : EdgeV} (h1 : WOk N ls) (h2 : eB N f = true) (h3 : hasB (gE ls) f = false) : waO N ls f = some (putL ls (cmL N ls f)) := by unfold waO; rw [if_pos ⟨h1, h2, h3⟩]
theorem waO_no {N : Int} {ls : List Ld} {f : EdgeV} (h : ¬ (WOk N ls ∧ eB N f = true ∧ hasB (gE ls) f = false)) : waO N ls f = none := by unfold waO; rw [if_neg h]
theorem addE_yes {N : Int} {ls : List Ld} {f : EdgeV} (h1 : WOk N ls) (h2 : eB N f = true) (h3 : hasB (gE ls) f = false) : addE N (gE ls) f = some (putE (gE ls) f) := by unfold addE; rw [if_pos ⟨h1.1, h2, h3⟩]
theorem addE_no {N : Int} {ls : List Ld} {f : EdgeV} (h1 : WOk N ls) (h : waO N ls f = none) : addE N (gE ls) f = none := by
  unfold addE
  rw [if_neg]
  rintro ⟨_, h2, h3⟩
  rw [waO_yes h1 h2 h3] at h
  cases h
/-- those ahead and those behind, of ascending ones -/
theorem part_asc (ls : List Ld) (e : EdgeV) (hp : ls.Pairwise fun x y => lt x.e y.e = true) (hn : ∀ x ∈ ls, x.e ≠ e) : ls.filter (fun d => lt d.e e) ++ ls.filter (fun d => lt e d.e) = ls := by
  induction ls with
  | nil => rfl
  | cons x t ih =>
    rw [List.pairwise_cons] at hp
    have ih := ih hp.2 (fun y hy => hn y (List.mem_cons_of_mem _ hy))
    cases hx : lt x.e e with
    | true =>
      rw [List.filter_cons_of_pos (by simpa using hx), List.filter_cons_of_neg (by rw [lt_asymm' hx]; simp), List.cons_append, ih]
    | false =>
      have h2 := lt_total' hx (hn x (List.mem_cons_self ..))
      have h3 : ∀ y ∈ t, lt e y.e = true := fun y hy => lt_trans' h2 (hp.1 y hy)
      rw [List.filter_cons_of_neg (by rw [hx]; simp), List.filter_cons_of_pos (by simpa using h2)]
      rw [List.filter_eq_nil_iff.2 (fun y hy => by rw [lt_asymm' (h3 y hy)]; simp), List.filter_eq_self.2 (fun y hy => by simpa using h3 y hy)]
      rfl
theorem gE_asc {N : Int} {ls : List Ld} (h : gB N (gE ls) = true) : ls.Pairwise fun x y => lt x.e y.e = true := by
  have ha := asc_of_chk (gB_chk h).2.1
  rw [List.pairwise_iff_getElem]
  intro i j hi hj hij
  exact ha i j _ _ hij (gE_at (List.getElem?_eq_getElem hi)) (gE_at (List.getElem?_eq_getElem hj))
/-- where the edge that comes stands -/
theorem put_at {N : Int} {ls : List Ld} {x : Ld} (h : gB N (gE ls) = true) (hn : hasB (gE ls) x.e = false) : ∃ k : Nat, k ≤ ls.length ∧ idxE (putE (gE ls) x.e) x.e = (k : Int) ∧ putL ls x = ls.take k ++ [x] ++ ls.drop k := by
  have hn' : ∀ y ∈ ls, y.e ≠ x.e := fun y hy he => by
    have : hasB (gE ls) x.e = true := by unfold hasB; simp; exact he ▸ gE_mem hy
    rw [this] at hn
    cases hn
  have hp := part_asc ls x.e (gE_asc h) hn'
  have e1 : (gE ls).filter (fun d => lt d x.e) = (ls.filter (fun d => lt d.e x.e)).map Ld.e := by unfold gE; rw [List.filter_map]; rfl
  have e2 : (gE ls).filter (fun d => lt x.e d) = (ls.filter (fun d => lt x.e d.e)).map Ld.e := by unfold gE; rw [List.filter_map]; rfl
  refine ⟨(ls.filter (fun d => lt d.e x.e)).length, List.length_filter_le _ _, ?_, ?_⟩
  · refine idxE_yes ?_ ?_
    · unfold putE
      rw [e1]
      simp
    · intro j hj hjx
      unfold putE at hjx
      rw [e1, List.append_assoc, List.getElem?_append_left (by simpa using hj)] at hjx
      obtain ⟨y, hy, he⟩ := List.mem_map.1 (List.mem_of_getElem? hjx)
      exact hn' y (List.mem_filter.1 hy).1 he
  · have t1 : ls.take (ls.filter (fun d => lt d.e x.e)).length = ls.filter (fun d => lt d.e x.e) := by
      conv => lhs; arg 2; rw [← hp]
      simp
    have t2 : ls.drop (ls.filter (fun d => lt d.e x.e)).length = ls.filter (fun d => lt x.e d.e) := by
      conv => lhs; arg 2; rw [← hp]
      simp
    rw [t1, t2]
    rfl
/-- the answer of WebAdd, WebTake: a web of the answer's own, or nothing -/
def WAns (w : World) (N : Int) (o : Option (List Ld)) (e : Ending) (w' : World) : Prop :=
  ∃ a m c, e = .returned (.tuple #[.agg #[.int .i64 (if o.isSome then N else 0), .slice a m c], .bool o.isSome]) ∧ w'.ownsRow w.heap.size 52 4 (.slice a m c) m (lcells (o.getD [])) ∧ Below w.heap.size w w'
/-- the world behind the boxes -/
def w3w (w : World) (N : Int) (a : Option Addr) (n c : Nat) (f : EdgeV) : World :=
  ((w.alloc (.cells #[.int .i64 N, .slice a n c] 26)).alloc (.cells #[.int .i64 f.1, .int .i64 f.2] 28)).alloc (.cells #[.int .i64 0, .slice none 0 0] 26)
theorem w3w_size (w : World) (N : Int) (a : Option Addr) (n c : Nat) (f : EdgeV) : (w3w w N a n c f).heap.size = w.heap.size + 3 := by simp [w3w]
theorem w3w_below (w : World) (N : Int) (a : Option Addr) (n c : Nat) (f : EdgeV) : Below w.heap.size w (w3w w N a n c f) := (((Below.refl _ _).alloc (Nat.le_refl _) _).alloc (by simp) _).alloc (by simp; omega) _
/-- what the boxes hold, whatever has come since -/
structure In3w (w : World) (N : Int) (a : Option Addr) (n c : Nat) (f : EdgeV) (u : World) : Prop where
  good : Good (w3w w N a n c f) u
theorem In3w.cells {w : World} {N : Int} {a : Option Addr} {n c : Nat} {f : EdgeV} {u : World} (h : In3w w N a n c f u) :
    (u.cell? ⟨w.heap.size, 0, none⟩ = some (.int .i64 N) ∧ u.cell? ⟨w.heap.size, 1, none⟩ = some (.slice a n c)) ∧ (u.cell? ⟨w.heap.size + 1, 0, none⟩ = some (.int .i64 f.1) ∧ u.cell? ⟨w.heap.size + 1, 1, none⟩ = some (.int .i64 f.2)) := by
  have hs := w3w_size w N a n c f
  refine ⟨⟨?_, ?_⟩, ?_, ?_⟩
  · rw [h.good.cell (by omega)]; simp [w3w, go_sem]
  · rw [h.good.cell (by omega)]; simp [w3w, go_sem]
  · rw [h.good.cell (by omega)]; simp [w3w, go_sem]
  · rw [h.good.cell (by omega)]; simp [w3w, go_sem]
theorem In3w.out {w : World} {N : Int} {a : Option Addr} {n c : Nat} {f : EdgeV} {u : World} (h : In3w w N a n c f u) :
    (u.cell? ⟨w.heap.size + 1 + 1, 0, none⟩ = some (.int .i64 0) ∧ u.cell? ⟨w.heap.size + 1 + 1, 1, none⟩ = some (.slice none 0 0)) ∧ (u.frozen? ⟨w.heap.size + 1 + 1, 0, none⟩ = false ∧ u.frozen? ⟨w.heap.size + 1 + 1, 1, none⟩ = false) := by
  have hs := w3w_size w N a n c f
  refine ⟨⟨?_, ?_⟩, ?_, ?_⟩
  · rw [h.good.cell (by omega)]; simp [w3w, go_sem]
  · rw [h.good.cell (by omega)]; simp [w3w, go_sem]
  · rw [Below.frozen h.good (by show w.heap.size + 1 + 1 < _; omega)]; simp [w3w, go_sem]
  · rw [Below.frozen h.good (by show w.heap.size + 1 + 1 < _; omega)]; simp [w3w, go_sem]
theorem In3w.up {w : World} {N : Int} {a : Option Addr} {n c : Nat} {f : EdgeV} {u v : World} (h : In3w w N a n c f u) (hb : Below u.heap.size u v) : In3w w N a n c f v := ⟨h.good.up hb⟩
theorem In3w.start (w : World) (N : Int) (a : Option Addr) (n c : Nat) (f : EdgeV) : In3w w N a n c f (w3w w N a n c f) := ⟨Good.refl _⟩
theorem In3w.below {w : World} {N : Int} {a : Option Addr} {n c : Nat} {f : EdgeV} {u : World} (h : In3w w N a n c f u) : Below w.heap.size w u := (w3w_below w N a n c f).trans (Below.mono h.good (by rw [w3w_size]; omega))
theorem In3w.size {w : World} {N : Int} {a : Option Addr} {n c : Nat} {f : EdgeV} {u : World} (h : In3w w N a n c f u) : w.heap.size + 3 ≤ u.heap.size := by have := h.good.size; rw [w3w_size] at this; exact this
theorem In3w.drew {w : World} {N : Int} {a : Option Addr} {n c : Nat} {f : EdgeV} {u : World} (h : In3w w N a n c f u) : In3w w N a n c f u.drew := ⟨h.good.drew⟩
theorem In3w.cellsSet {w : World} {N : Int} {a : Option Addr} {n c : Nat} {f : EdgeV} {u : World} (h : In3w w N a n c f u) (v0 v1 : Value) :
    ((((u.setCell ⟨w.heap.size + 1 + 1, 0, none⟩ v0).setCell ⟨w.heap.size + 1 + 1, 1, none⟩ v1)).cell? ⟨w.heap.size, 0, none⟩ = some (.int .i64 N) ∧ (((u.setCell ⟨w.heap.size + 1 + 1, 0, none⟩ v0).setCell ⟨w.heap.size + 1 + 1, 1, none⟩ v1)).cell? ⟨w.heap.size, 1, none⟩ = some (.slice a n c)) ∧
      ((((u.setCell ⟨w.heap.size + 1 + 1, 0, none⟩ v0).setCell ⟨w.heap.size + 1 + 1, 1, none⟩ v1)).cell? ⟨w.heap.size + 1, 0, none⟩ = some (.int .i64 f.1) ∧ (((u.setCell ⟨w.heap.size + 1 + 1, 0, none⟩ v0).setCell ⟨w.heap.size + 1 + 1, 1, none⟩ v1)).cell? ⟨w.heap.size + 1, 1, none⟩ = some (.int .i64 f.2)) := by
  obtain ⟨⟨k0, k1⟩, k2, k3⟩ := h.cells
  refine ⟨⟨?_, ?_⟩, ?_, ?_⟩
  · rw [set_other (by omega), set_other (by omega)]; exact k0
  · rw [set_other (by omega), set_other (by omega)]; exact k1
  · rw [set_other (by omega), set_other (by omega)]; exact k2
  · rw [set_other (by omega), set_other (by omega)]; exact k3
theorem wans_yes {w u : World} {N : Int} {a : Option Addr} {n c : Nat} {f : EdgeV} (h : In3w w N a n c f u) {o : Option (List Ld)} {gs : List Ld} (ho : o = some gs) {B : Nat} {a' : Option Addr} {m' c' : Nat}
    (hB : w.heap.size + 3 ≤ B) (hown : u.ownsRow B 52 4 (.slice a' m' c') m' (lcells gs)) :
    WAns w N o (.returned (.tuple #[.agg #[.int .i64 N, .slice a' m' c'], .bool true])) ((u.setCell ⟨w.heap.size + 1 + 1, 0, none⟩ (.int .i64 N)).setCell ⟨w.heap.size + 1 + 1, 1, none⟩ (.slice a' m' c')) := by
  subst ho
  exact ⟨a', m', c', rfl, own_mono (own_setLow (own_setLow hown _ 0 _ (by omega)) _ 1 _ (by omega)) (by omega), (h.below.setCell (by show _ ≤ w.heap.size + 1 + 1; omega) _).setCell (by show _ ≤ w.heap.size + 1 + 1; omega) _⟩
theorem wans_no {w u : World} {N : Int} {a : Option Addr} {n c : Nat} {f : EdgeV} (h : In3w w N a n c f u) {o : Option (List Ld)} (ho : o = none) :
    WAns w N o (.returned (.tuple #[.agg #[.int .i64 0, .slice none 0 0], .bool false])) ((u.setCell ⟨w.heap.size + 1 + 1, 0, none⟩ (.int .i64 0)).setCell ⟨w.heap.size + 1 + 1, 1, none⟩ (.slice none 0 0)) := by
  subst ho
  exact ⟨none, 0, 0, rfl, World.ownsRow_nil _ _ _ _, (h.below.setCell (by show _ ≤ w.heap.size + 1 + 1; omega) _).setCell (by show _ ≤ w.heap.size + 1 + 1; omega) _⟩
/-- a row stays where a block of another kind is turned -/
theorem own_kinds {u : World} {lo b j n t e s : Nat} {v x : Value} {xs : List Value} {cs : Array Value} {fr : Nat × Nat} (h : u.ownsRow lo e s v n xs) (hb : u.heap[b]? = some (.cells cs t fr)) (hte : t ≠ e) : (u.setCell ⟨b, j, none⟩ x).ownsRow lo e s v n xs := by
  refine ⟨h.1, ?_⟩
  rcases h.2 with h3 | ⟨g, cap, cur, hv, hg, hcur, hrest⟩
  · exact .inl h3
  · refine .inr ⟨g, cap, cur, hv, hg, ?_, hrest⟩
    rw [heap_setCell_other u ⟨b, j, none⟩ g x (fun e2 => by
      have e2 : g = b := e2
      subst e2
      rw [hcur] at hb
      simp at hb
      exact hte hb.2.1.symm)]
    exact hcur
theorem InW.set {w : World} {N : Int} {a : Option Addr} {n c : Nat} {f : EdgeV} {u : World} (h : In3w w N a n c f u) (b j : Nat) (v : Value) (hb : w.heap.size + 3 ≤ b) : In3w w N a n c f (u.setCell ⟨b, j, none⟩ v) := ⟨Below.setCell h.good (p := ⟨b, j, none⟩) (by rw [w3w_size]; exact hb) v⟩
theorem InW.alloc {w : World} {N : Int} {a : Option Addr} {n c : Nat} {f : EdgeV} {u : World} (h : In3w w N a n c f u) (o : Obj) : In3w w N a n c f (u.alloc o) := h.up ((Below.refl _ _).alloc (Nat.le_refl _) _)
/-- a graph in a box -/
structure EB (u : World) (lo b : Nat) (M : Int) (a : Option Addr) (m c : Nat) (es : List EdgeV) : Prop where
  box : Box7 u b 33 (.int .i64 M) (.slice a m c)
  row : Es u u.heap.size a m es
  least : lo ≤ b
theorem EB.up {u v : World} {lo b : Nat} {M : Int} {a : Option Addr} {m c : Nat} {es : List EdgeV} (h : EB u lo b M a m c es) (hb : Below u.heap.size u v) : EB v lo b M a m c es := ⟨h.box.up hb, h.row.up hb, h.least⟩
theorem EB.laid {u : World} {lo : Nat} {M : Int} {a : Option Addr} {m c : Nat} {es : List EdgeV} {B : Nat} (hl : lo ≤ u.heap.size) (h : u.ownsRow B 28 2 (.slice a m c) m (ecells es)) : EB (u.alloc (.cells #[.int .i64 M, .slice a m c] 33)) lo u.heap.size M a m c es :=
  ⟨Box7.new _ _ _ _ _ rfl, (Es_of_own h).up ((Below.refl _ _).alloc (Nat.le_refl _) _), hl⟩
theorem EB.stored {u : World} {lo b : Nat} {M : Int} {a : Option Addr} {m c : Nat} {es : List EdgeV} {B : Nat} {v0 v1 : Value} (bx : Box7 u b 33 v0 v1) (hl : lo ≤ b) (h : u.ownsRow B 28 2 (.slice a m c) m (ecells es)) : EB ((u.setCell ⟨b, 0, none⟩ (.int .i64 M)).setCell ⟨b, 1, none⟩ (.slice a m c)) lo b M a m c es :=
  ⟨bx.set2 _ _, Es_of_own (own_kinds (own_kinds h bx (by decide)) (show (u.setCell ⟨b, 0, none⟩ (.int .i64 M)).heap[b]? = some (.cells #[.int .i64 M, v1] 33 (0, 0)) by rw [heap_setCell_same u b 0 _ _ _ bx]; rfl) (by decide)), hl⟩
/-- an edge with its level in a block of its own -/
def Box4 (w : World) (b : Nat) (x : Ld) : Prop := w.heap[b]? = some (.cells #[.int .i64 x.a, .int .i64 x.b, .int .i64 x.l, .bool x.t] 52 (0, 0))
theorem Box4.lt {w : World} {b : Nat} {x : Ld} (h : Box4 w b x) : b < w.heap.size := (Array.getElem?_eq_some_iff.1 h).1
theorem Box4.up {w w' : World} {b : Nat} {x : Ld} (h : Box4 w b x) (hb : Below w.heap.size w w') : Box4 w' b x := by
  unfold Box4; rw [hb.block b h.lt]; exact h
theorem Box4.new (w : World) (x : Ld) (b : Nat) (hb : w.heap.size = b) : Box4 (w.alloc (.cells #[.int .i64 x.a, .int .i64 x.b, .int .i64 x.l, .bool x.t] 52)) b x := by subst hb; exact heap_alloc_new w _
theorem Box4.cells {w : World} {b : Nat} {x : Ld} (h : Box4 w b x) : w.cell? ⟨b, 0, none⟩ = some (.int .i64 x.a) ∧ w.cell? ⟨b, 1, none⟩ = some (.int .i64 x.b) ∧ w.cell? ⟨b, 2, none⟩ = some (.int .i64 x.l) ∧ w.cell? ⟨b, 3, none⟩ = some (.bool x.t) := by
  refine ⟨?_, ?_, ?_, ?_⟩
  · rw [cell_of_row w b 0 _ _ _ h]; rfl
  · rw [cell_of_row w b 1 _ _ _ h]; rfl
  · rw [cell_of_row w b 2 _ _ _ h]; rfl
  · rw [cell_of_row w b 3 _ _ _ h]; rfl
theorem Box4.frozen {w : World} {b : Nat} {x : Ld} (h : Box4 w b x) (j : Nat) : w.frozen? ⟨b, j, none⟩ = false := frozen_of_row w b j _ _ h
theorem Box4.set4 {w : World} {b : Nat} {y : Ld} (h : Box4 w b y) (x : Ld) : Box4 ((((w.setCell ⟨b, 0, none⟩ (.int .i64 x.a)).setCell ⟨b, 1, none⟩ (.int .i64 x.b)).setCell ⟨b, 2, none⟩ (.int .i64 x.l)).setCell ⟨b, 3, none⟩ (.bool x.t)) b x := by
  have h1 : (w.setCell ⟨b, 0, none⟩ (.int .i64 x.a)).heap[b]? = some (.cells #[.int .i64 x.a, .int .i64 y.b, .int .i64 y.l, .bool y.t] 52 (0, 0)) := by rw [heap_setCell_same w b 0 _ _ _ h]; rfl
  have h2 : ((w.setCell ⟨b, 0, none⟩ (.int .i64 x.a)).setCell ⟨b, 1, none⟩ (.int .i64 x.b)).heap[b]? = some (.cells #[.int .i64 x.a, .int .i64 x.b, .int .i64 y.l, .bool y.t] 52 (0, 0)) := by rw [heap_setCell_same _ b 1 _ _ _ h1]; rfl
  have h3 : (((w.setCell ⟨b, 0, none⟩ (.int .i64 x.a)).setCell ⟨b, 1, none⟩ (.int .i64 x.b)).setCell ⟨b, 2, none⟩ (.int .i64 x.l)).heap[b]? = some (.cells #[.int .i64 x.a, .int .i64 x.b, .int .i64 x.l, .bool y.t] 52 (0, 0)) := by rw [heap_setCell_same _ b 2 _ _ _ h2]; rfl
  unfold Box4
  rw [heap_setCell_same _ b 3 _ _ _ h3]; rfl
theorem heldW {w : World} {N : Int} {a : Option Addr} {n c : Nat} {f : EdgeV} {u : World} {b : Nat} {x : Ld} (h : In3w w N a n c f u) (hb : Box4 u b x) : (u.cell? ⟨w.heap.size, 0, none⟩ = some (.int .i64 N) ∧ u.cell? ⟨w.heap.size, 1, none⟩ = some (.slice a n c)) ∧ u.cell? ⟨b, 0, none⟩ = some (.int .i64 x.a) ∧ u.cell? ⟨b, 1, none⟩ = some (.int .i64 x.b) ∧ u.cell? ⟨b, 2, none⟩ = some (.int .i64 x.l) ∧ u.cell? ⟨b, 3, none⟩ = some (.bool x.t) := ⟨h.cells.1, hb.cells⟩
theorem heldWset {w : World} {N : Int} {a : Option Addr} {n c : Nat} {f : EdgeV} {u : World} {b : Nat} {x : Ld} (h : In3w w N a n c f u) (hb : Box4 u b x) (hl : w.heap.size + 3 ≤ b) (v0 v1 : Value) : (((u.setCell ⟨w.heap.size + 1 + 1, 0, none⟩ v0).setCell ⟨w.heap.size + 1 + 1, 1, none⟩ v1).cell? ⟨w.heap.size, 0, none⟩ = some (.int .i64 N) ∧ ((u.setCell ⟨w.heap.size + 1 + 1, 0, none⟩ v0).setCell ⟨w.heap.size + 1 + 1, 1, none⟩ v1).cell? ⟨w.heap.size, 1, none⟩ = some (.slice a n c)) ∧ ((u.setCell ⟨w.heap.size + 1 + 1, 0, none⟩ v0).setCell ⟨w.heap.size + 1 + 1, 1, none⟩ v1).cell? ⟨b, 0, none⟩ = some (.int .i64 x.a) ∧ ((u.setCell ⟨w.heap.size + 1 + 1, 0, none⟩ v0).setCell ⟨w.heap.size + 1 + 1, 1, none⟩ v1).cell? ⟨b, 1, none⟩ = some (.int .i64 x.b) ∧ ((u.setCell ⟨w.heap.size + 1 + 1, 0, none⟩ v0).setCell ⟨w.heap.size + 1 + 1, 1, none⟩ v1).cell? ⟨b, 2, none⟩ = some (.int .i64 x.l) ∧ ((u.setCell ⟨w.heap.size + 1 + 1, 0, none⟩ v0).setCell ⟨w.heap.size + 1 + 1, 1, none⟩ v1).cell? ⟨b, 3, none⟩ = some (.bool x.t) := by
  obtain ⟨b0, b1, b2, b3⟩ := hb.cells
  refine ⟨(h.cellsSet v0 v1).1, ?_, ?_, ?_, ?_⟩
  · rw [set_other (by omega), set_other (by omega)]; exact b0
  · rw [set_other (by omega), set_other (by omega)]; exact b1
  · rw [set_other (by omega), set_other (by omega)]; exact b2
  · rw [set_other (by omega), set_other (by omega)]; exact b3
theorem Good.set4 {w u : World} (h : Good w u) (b : Nat) (v0 v1 v2 v3 : Value) (hb : w.heap.size ≤ b) : Good w ((((u.setCell ⟨b, 0, none⟩ v0).setCell ⟨b, 1, none⟩ v1).setCell ⟨b, 2, none⟩ v2).setCell ⟨b, 3, none⟩ v3) :=
  Below.setCell (p := ⟨b, 3, none⟩) (Below.setCell (p := ⟨b, 2, none⟩) (Below.setCell (p := ⟨b, 1, none⟩) (Below.setCell (p := ⟨b, 0, none⟩) h hb v0) hb v1) hb v2) hb v3
theorem Box4.new0 (w : World) : Box4 (w.alloc (.cells #[.int .i64 0, .int .i64 0, .int .i64 0, .bool false] 52)) w.heap.size ⟨0, 0, 0, false⟩ := heap_alloc_new w _
theorem Box4.new0d (w : World) : Box4 (w.alloc (.cells #[.int .i64 0, .int .i64 0, .int .i64 0, .bool false] 52)).drew w.heap.size ⟨0, 0, 0, false⟩ := heap_alloc_new w _
end Go.Proofs.YtpfkfbmghddepaaGreat
namespace Go.Proofs.YtpfkfbmghddepaaGreat
open Go.RowKit

set_option maxRecDepth 100000 in
set_option maxHeartbeats 4000000 in
theorem sGraphOf_any (N : Int) (ls : List Ld) (n : Nat) (a : Option Addr) (c : Nat) (hn : n ≤ 1048576) (w : World) (h : Ls w w.heap.size a n ls) :
    Calls Tryz.prog 27 #[.agg #[.int .i64 N, .slice a n c]] w fun e w' => ∃ a' c', e = .returned (.agg #[.int .i64 N, .slice a' n c']) ∧ w'.ownsRow w.heap.size 28 2 (.slice a' n c') n (ecells (gE ls)) ∧ Below w.heap.size w w' := by
  obtain ⟨i0, hi, hz0, hz1, hz2⟩ := info_parts infoIE
  have HR := hideIt h
  have hlen := h.1
  clear h
  go_enter Tryz.func27, Tryz.ntmps27
  go_wp2
  go_loopw [4] (fun i wr => ∃ (k : Nat) (a' : Option Addr) (c' : Nat), k ≤ n ∧ i = .int .i64 (k : Int) ∧ Box7 wr w.heap.size 26 (.int .i64 N) (.slice a n c) ∧ Box7 wr (w.heap.size + 1) 33 (.int .i64 0) (.slice none 0 0) ∧ Box7 wr (w.heap.size + 1 + 1) 33 (.int .i64 N) (.slice a' k c') ∧
      wr.ownsRow (w.heap.size + 1 + 1 + 1) 28 2 (.slice a' k c') k (ecells (gE (ls.take k))) ∧ Below w.heap.size w wr) (fun i _ => n - (intOf i).toNat)
  case atStart =>
    refine ⟨0, none, 0, by omega, rfl, ?_, ?_, ?_, by simpa [gE, ecells] using World.ownsRow_nil _ _ _ _, ?_⟩
    · exact ((Box7.new w _ _ _ _ rfl).alloc _).alloc _
    · exact (Box7.new _ _ _ _ _ (by simp)).alloc _
    · exact Box7.new _ _ _ _ _ (by simp)
    · exact (((Below.refl _ _).alloc (Nat.le_refl _) _).alloc (by simp) _).alloc (by simp; omega) _
  case round =>
    obtain ⟨k, a', c', hk, rfl, x0, x1, x2, hown, hb⟩ := hrel
    have e0 := x0.cell1
    have e1 := x2.cell1
    have e2 := x2.frozen 1
    have l2 := x2.lt
    by_cases hlt : k < n
    · obtain ⟨b, off, x, rfl, hbl, hxk, hat⟩ := (HR.out.below hb (Nat.le_refl _)).at hlt
      have d0 := hat.ca
      have d1 := hat.cb
      have b1 : (0 : Int) ≤ (k : Int) := by omega
      have b2 : (k : Int) < (n : Int) := by omega
      have HX : Hid (ecells (gE (ls.take (k + 1))) = ecells (gE (ls.take k)) ++ [.int .i64 x.a, .int .i64 x.b]) := by
        show _ = _
        rw [take_snocF ls k x hxk]
        simp [gE, Ld.e, ecells, ecell]
      have hrow : ∀ q, q < w.heap.size + 1 + 1 + 1 → some q ≠ (Value.slice a' k c').ownBlock := fun q hq e => by
        have := (hown.lt q e.symm).1
        omega
      have HK : Hid (∀ w1 : World, ((wr.alloc (.cells #[.int .i64 x.a, .int .i64 x.b] 28)).drew).grownBy w1 (Value.slice a' k c').ownBlock →
          (w1.cell? ⟨w.heap.size, 1, none⟩ = some (.slice (some ⟨b, off, none⟩) n c) ∧ w1.cell? ⟨b, off + k * 4, none⟩ = some (.int .i64 x.a) ∧ w1.cell? ⟨b, off + k * 4 + 1, none⟩ = some (.int .i64 x.b)) ∧
          Box7 w1 w.heap.size 26 (.int .i64 N) (.slice (some ⟨b, off, none⟩) n c) ∧ Box7 w1 (w.heap.size + 1) 33 (.int .i64 0) (.slice none 0 0) ∧ Box7 w1 (w.heap.size + 1 + 1) 33 (.int .i64 N) (.slice a' k c') ∧ Below w.heap.size w w1) := fun w1 hg => by
        have y0 := (x0.alloc (.cells #[.int .i64 x.a, .int .i64 x.b] 28)).grown (w' := w1) ⟨hg.os, hg.tape, hg.output, hg.size, hg.block⟩ (hrow _ (by omega))
        have y1 := (x1.alloc (.cells #[.int .i64 x.a, .int .i64 x.b] 28)).grown (w' := w1) ⟨hg.os, hg.tape, hg.output, hg.size, hg.block⟩ (hrow _ (by omega))
        have y2 := (x2.alloc (.cells #[.int .i64 x.a, .int .i64 x.b] 28)).grown (w' := w1) ⟨hg.os, hg.tape, hg.output, hg.size, hg.block⟩ (hrow _ (by omega))
        have hb1 : Below wr.heap.size wr (wr.alloc (.cells #[.int .i64 x.a, .int .i64 x.b] 28)).drew := ((Below.refl _ _).alloc (Nat.le_refl _) _).drew
        have hb2 : Below w.heap.size wr w1 := (hb1.mono hb.size).grown hg (by have := hb.size; simp; omega) (fun j hj => by have := (hown.lt j hj).1; omega)
        exact ⟨⟨y0.cell1, by rw [hb2.cell hbl]; exact d0, by rw [hb2.cell hbl]; exact d1⟩, y0, y1, y2, hb.trans hb2⟩
      have hS0 : wr.drew.cell? ⟨w.heap.size, 1, none⟩ = some (.slice (some ⟨b, off, none⟩) n c) ∧ wr.drew.cell? ⟨b, off + k * 4, none⟩ = some (.int .i64 x.a) ∧ wr.drew.cell? ⟨b, off + k * 4 + 1, none⟩ = some (.int .i64 x.b) := ⟨e0, d0, d1⟩
      have hal : Below wr.heap.size wr (wr.alloc (.cells #[.int .i64 x.a, .int .i64 x.b] 28)).drew := ((Below.refl _ _).alloc (Nat.le_refl _) _).drew
      have hbw : b < wr.heap.size := by have := hb.size; omega
      have hS1 : (wr.alloc (.cells #[.int .i64 x.a, .int .i64 x.b] 28)).drew.cell? ⟨w.heap.size, 1, none⟩ = some (.slice (some ⟨b, off, none⟩) n c) ∧ (wr.alloc (.cells #[.int .i64 x.a, .int .i64 x.b] 28)).drew.cell? ⟨b, off + k * 4, none⟩ = some (.int .i64 x.a) ∧ (wr.alloc (.cells #[.int .i64 x.a, .int .i64 x.b] 28)).drew.cell? ⟨b, off + k * 4 + 1, none⟩ = some (.int .i64 x.b) :=
        ⟨by rw [hal.cell x0.lt]; exact e0, by rw [hal.cell hbw]; exact d0, by rw [hal.cell hbw]; exact d1⟩
      have HS2 : Hid (∀ (u : World) (v : Value) (j : Nat), (u.cell? ⟨w.heap.size, 1, none⟩ = some (.slice (some ⟨b, off, none⟩) n c) ∧ u.cell? ⟨b, off + k * 4, none⟩ = some (.int .i64 x.a) ∧ u.cell? ⟨b, off + k * 4 + 1, none⟩ = some (.int .i64 x.b)) → ((u.setCell ⟨w.heap.size + 1 + 1, j, none⟩ v).cell? ⟨w.heap.size, 1, none⟩ = some (.slice (some ⟨b, off, none⟩) n c) ∧ (u.setCell ⟨w.heap.size + 1 + 1, j, none⟩ v).cell? ⟨b, off + k * 4, none⟩ = some (.int .i64 x.a) ∧ (u.setCell ⟨w.heap.size + 1 + 1, j, none⟩ v).cell? ⟨b, off + k * 4 + 1, none⟩ = some (.int .i64 x.b))) := fun u v j h => by
        rw [set_other (by omega), set_other (by omega), set_other (by omega)]
        exact h
      have HOwn := hideIt hown
      clear hxk hat hown hal
      go_wp2
      refine wp_region_held_drew (S := (fun u => u.cell? ⟨w.heap.size, 1, none⟩ = some (.slice (some ⟨b, off, none⟩) n c) ∧ u.cell? ⟨b, off + k * 4, none⟩ = some (.int .i64 x.a) ∧ u.cell? ⟨b, off + k * 4 + 1, none⟩ = some (.int .i64 x.b))) (by kernel_rfl) hS0 (fun hHeld => ?_)
      refine wpAnyH_take (i := 0) (v := ?_) rfl (by kernel_rfl) (by kernel_rfl) (by kernel_rfl) (fun _ _ _ h => h) (Or.inl ⟨by rfl, ?_⟩) (by assumption) ?_
      rotate_left
      · intro w hSw; (try dsimp only at hSw); go_simp; try with_reducible rfl
      try simp only [Act.put, List.getElem_toArray, List.getElem_cons_zero, List.setIfInBounds_toArray, List.set_cons_zero, List.set_cons_succ]
      refine wpAnyH_take (i := 2) (v := ?_) rfl (by kernel_rfl) (by kernel_rfl) (by kernel_rfl) (fun _ _ _ h => h) (Or.inl ⟨by rfl, ?_⟩) (by assumption) ?_
      rotate_left
      · intro w hSw; (try dsimp only at hSw); go_simp; try with_reducible rfl
      try simp only [Act.put, List.getElem_toArray, List.getElem_cons_succ, List.getElem_cons_zero, List.setIfInBounds_toArray, List.set_cons_zero, List.set_cons_succ]
      refine wpAnyH_take (i := 3) (v := ?_) rfl (by kernel_rfl) (by kernel_rfl) (by kernel_rfl) (fun _ _ _ h => h) (Or.inl ⟨by rfl, ?_⟩) (by assumption) ?_
      rotate_left
      · intro w hSw; (try dsimp only at hSw); go_simp; try with_reducible rfl
      try simp only [Act.put, List.getElem_toArray, List.getElem_cons_succ, List.getElem_cons_zero, List.setIfInBounds_toArray, List.set_cons_zero, List.set_cons_succ]
      refine wpAnyH_take (i := 4) (v := ?_) rfl (by kernel_rfl) (by kernel_rfl) (by kernel_rfl) (fun _ _ _ h => h) (Or.inl ⟨by rfl, ?_⟩) (by assumption) ?_
      rotate_left
      · intro w hSw; (try dsimp only at hSw); go_simp; try with_reducible rfl
      try simp only [Act.put, List.getElem_toArray, List.getElem_cons_succ, List.getElem_cons_zero, List.setIfInBounds_toArray, List.set_cons_zero, List.set_cons_succ]
      refine wpAnyH_take (i := 5) (v := ?_) rfl (by kernel_rfl) (by kernel_rfl) (by kernel_rfl) (fun _ _ _ h => h) (Or.inl ⟨by rfl, ?_⟩) (by assumption) ?_
      rotate_left
      · intro w hSw; (try dsimp only at hSw); go_simp; try with_reducible rfl
      try simp only [Act.put, List.getElem_toArray, List.getElem_cons_succ, List.getElem_cons_zero, List.setIfInBounds_toArray, List.set_cons_zero, List.set_cons_succ]
      refine wpAnyH_take (i := 6) (v := ?_) rfl (by kernel_rfl) (by kernel_rfl) (by kernel_rfl) (fun _ _ _ h => h) (Or.inl ⟨by rfl, ?_⟩) (by assumption) ?_
      rotate_left
      · intro w hSw; (try dsimp only at hSw); go_simp; try with_reducible rfl
      try simp only [Act.put, List.getElem_toArray, List.getElem_cons_succ, List.getElem_cons_zero, List.setIfInBounds_toArray, List.set_cons_zero, List.set_cons_succ]
      refine wpAnyH_take (i := 7) (v := ?_) rfl (by kernel_rfl) (by kernel_rfl) (by kernel_rfl) (fun _ _ _ h => h) (Or.inl ⟨by rfl, ?_⟩) (by assumption) ?_
      rotate_left
      · intro w hSw; (try dsimp only at hSw); go_simp; try with_reducible rfl
      try simp only [Act.put, List.getElem_toArray, List.getElem_cons_succ, List.getElem_cons_zero, List.setIfInBounds_toArray, List.set_cons_zero, List.set_cons_succ]
      refine wpAnyH_take (i := 8) (v := ?_) rfl (by kernel_rfl) (by kernel_rfl) (by kernel_rfl) (fun _ _ _ h => h) (Or.inl ⟨by rfl, ?_⟩) (by assumption) ?_
      rotate_left
      · intro w hSw; (try dsimp only at hSw); go_simp; try with_reducible rfl
      try simp only [Act.put, List.getElem_toArray, List.getElem_cons_succ, List.getElem_cons_zero, List.setIfInBounds_toArray, List.set_cons_zero, List.set_cons_succ]
      refine wpAnyH_take (i := 9) (v := ?_) rfl (by kernel_rfl) (by kernel_rfl) (by kernel_rfl) (fun _ _ _ h => h) (Or.inl ⟨by rfl, ?_⟩) (by assumption) ?_
      rotate_left
      · intro w hSw; (try dsimp only at hSw); go_simp; try with_reducible rfl
      try simp only [Act.put, List.getElem_toArray, List.getElem_cons_succ, List.getElem_cons_zero, List.setIfInBounds_toArray, List.set_cons_zero, List.set_cons_succ]
      refine wpAnyH_take (i := 10) (v := ?_) rfl (by kernel_rfl) (by kernel_rfl) (by kernel_rfl) (fun _ _ _ h => h) (Or.inl ⟨by rfl, ?_⟩) (by assumption) ?_
      rotate_left
      · intro w hSw; (try dsimp only at hSw); go_simp; try with_reducible rfl
      try simp only [Act.put, List.getElem_toArray, List.getElem_cons_succ, List.getElem_cons_zero, List.setIfInBounds_toArray, List.set_cons_zero, List.set_cons_succ]
      refine wpAnyH_take (i := 11) (v := ?_) rfl (by kernel_rfl) (by kernel_rfl) (by kernel_rfl) (fun _ _ _ h => h) (Or.inl ⟨by rfl, ?_⟩) (by assumption) ?_
      rotate_left
      · intro w hSw; (try dsimp only at hSw); go_simp; try with_reducible rfl
      try simp only [Act.put, List.getElem_toArray, List.getElem_cons_succ, List.getElem_cons_zero, List.setIfInBounds_toArray, List.set_cons_zero, List.set_cons_succ]
      refine wpAnyH_take (i := 12) (v := ?_) rfl (by kernel_rfl) (by kernel_rfl) (by kernel_rfl) (fun _ _ _ h => h) (Or.inl ⟨by rfl, ?_⟩) (by assumption) ?_
      rotate_left
      · intro w hSw; (try dsimp only at hSw); go_simp; try with_reducible rfl
      try simp only [Act.put, List.getElem_toArray, List.getElem_cons_succ, List.getElem_cons_zero, List.setIfInBounds_toArray, List.set_cons_zero, List.set_cons_succ]
      refine wpAnyH_take (i := 13) (v := ?_) rfl (by kernel_rfl) (by kernel_rfl) (by kernel_rfl) (fun _ _ _ h => h) (Or.inl ⟨by rfl, ?_⟩) (by assumption) ?_
      rotate_left
      · intro w hSw; (try dsimp only at hSw); go_simp; try with_reducible rfl
      try simp only [Act.put, List.getElem_toArray, List.getElem_cons_succ, List.getElem_cons_zero, List.setIfInBounds_toArray, List.set_cons_zero, List.set_cons_succ]
      refine wpAnyH_take (i := 14) (v := ?_) rfl (by kernel_rfl) (by kernel_rfl) (by kernel_rfl) (fun _ _ _ h => h) (Or.inl ⟨by rfl, ?_⟩) (by assumption) ?_
      rotate_left
      · intro w hSw; (try dsimp only at hSw); go_simp; try with_reducible rfl
      try simp only [Act.put, List.getElem_toArray, List.getElem_cons_succ, List.getElem_cons_zero, List.setIfInBounds_toArray, List.set_cons_zero, List.set_cons_succ]
      refine wpAnyH_ready (rs := [1, 15]) (by kernel_rfl) (by simp) ?_
      refine AllReadyH.cons rfl (fun K hK => ?_) (AllReadyH.cons rfl (fun K hK => ?_) AllReadyH.nil)
      · go_simp
        refine hK.out _ _ hS0 (fun hHeld => ?_)
        clear hK K
        try simp only [Act.put, List.getElem_toArray, List.getElem_cons_succ, List.getElem_cons_zero, List.setIfInBounds_toArray, List.set_cons_zero, List.set_cons_succ]
        refine wpAnyH_ready (rs := [15]) (by kernel_rfl) (by simp) ?_
        refine AllReadyH.cons rfl (fun K hK => ?_) AllReadyH.nil
        go_simp
        refine hK.out _ _ hS1 (fun hHeld => ?_)
        clear hK K
        try simp only [Act.put, List.getElem_toArray, List.getElem_cons_succ, List.getElem_cons_zero, List.setIfInBounds_toArray, List.set_cons_zero, List.set_cons_succ]
        refine wpAnyH_ready (rs := [16]) (by kernel_rfl) (by simp) ?_
        refine AllReadyH.cons rfl (fun K hK => ?_) AllReadyH.nil
        refine step_append_lies _ (by rfl) _ _ _ (by rfl) (w.heap.size + 1 + 1 + 1) 28 i0 _ 2 16 Tryz.underlying31 hi hz0 hz1 hz2 rfl (by omega) _ k _ (by rfl) ((HOwn.out.alloc _).drew) ⟨wr.heap.size, 0, none⟩ 1 1 [.int .i64 x.a, .int .i64 x.b] (by rfl) (by rfl) (World.news_of_block (cs := #[.int .i64 x.a, .int .i64 x.b]) (t := 28) (fr := (0, 0)) (heap_alloc_new wr _)) (by simp [Value.oneCell']) (by omega) (by unfold maxLen; omega) (by omega) (by simp; omega) (wr.heap.size + 1) (by simp) ?_
        intro g1 cap1 w1 hown1 hg1 hat1 hlt1
        obtain ⟨S1, y0, y1, y2, hb1⟩ := HK.out _ hg1
        have z1 := y2.cell1
        have z2 := y2.frozen 1
        refine hK.out _ _ S1 (fun hHeld => ?_)
        clear hK K
        try simp only [Act.put, List.getElem_toArray, List.getElem_cons_succ, List.getElem_cons_zero, List.setIfInBounds_toArray, List.set_cons_zero, List.set_cons_succ]
        refine wpAnyH_ready (rs := [17]) (by kernel_rfl) (by simp) ?_
        refine AllReadyH.cons rfl (fun K hK => ?_) AllReadyH.nil
        go_simp
        refine hK.out _ _ S1 (fun hHeld => ?_)
        clear hK K
        try simp only [Act.put, List.getElem_toArray, List.getElem_cons_succ, List.getElem_cons_zero, List.setIfInBounds_toArray, List.set_cons_zero, List.set_cons_succ]
        refine wpAnyH_ready (rs := [18]) (by kernel_rfl) (by simp) ?_
        refine AllReadyH.cons rfl (fun K hK => ?_) AllReadyH.nil
        go_simp
        refine hK.out _ _ (HS2.out _ _ _ S1) (fun hHeld => ?_)
        clear hK K
        try simp only [Act.put, List.getElem_toArray, List.getElem_cons_succ, List.getElem_cons_zero, List.setIfInBounds_toArray, List.set_cons_zero, List.set_cons_succ]
        refine wpAnyH_done (by kernel_rfl) ?_ _
        have lg := (hown1.lt g1 rfl).1
        have HO := hideIt (own_setOther hown1 (w.heap.size + 1 + 1) 1 (.slice (some ⟨g1, 0, none⟩) (k + 1) cap1) (by omega))
        have q0 := y0.setOther (j := 1) (.slice (some ⟨g1, 0, none⟩) (k + 1) cap1) (show w.heap.size ≠ w.heap.size + 1 + 1 by omega)
        have q1 := y1.setOther (j := 1) (.slice (some ⟨g1, 0, none⟩) (k + 1) cap1) (show w.heap.size + 1 ≠ w.heap.size + 1 + 1 by omega)
        have q2 := y2.set1 (.slice (some ⟨g1, 0, none⟩) (k + 1) cap1)
        have q3 := hb1.setCell (p := ⟨w.heap.size + 1 + 1, 1, none⟩) (by show _ ≤ w.heap.size + 1 + 1; omega) (.slice (some ⟨g1, 0, none⟩) (k + 1) cap1)
        clear hown1 hg1 HOwn S1 HK hrow
        go_wp2
        exact ⟨⟨k + 1, _, _, by omega, by go_num, q0, q1, q2, by rw [HX.out]; exact HO.out, q3⟩, by simp [intOf]; omega⟩
      · go_simp
        refine hK.out _ _ hS1 (fun hHeld => ?_)
        clear hK K
        try simp only [Act.put, List.getElem_toArray, List.getElem_cons_succ, List.getElem_cons_zero, List.setIfInBounds_toArray, List.set_cons_zero, List.set_cons_succ]
        refine wpAnyH_ready (rs := [1]) (by kernel_rfl) (by simp) ?_
        refine AllReadyH.cons rfl (fun K hK => ?_) AllReadyH.nil
        go_simp
        refine hK.out _ _ hS1 (fun hHeld => ?_)
        clear hK K
        try simp only [Act.put, List.getElem_toArray, List.getElem_cons_succ, List.getElem_cons_zero, List.setIfInBounds_toArray, List.set_cons_zero, List.set_cons_succ]
        refine wpAnyH_ready (rs := [16]) (by kernel_rfl) (by simp) ?_
        refine AllReadyH.cons rfl (fun K hK => ?_) AllReadyH.nil
        refine step_append_lies _ (by rfl) _ _ _ (by rfl) (w.heap.size + 1 + 1 + 1) 28 i0 _ 2 16 Tryz.underlying31 hi hz0 hz1 hz2 rfl (by omega) _ k _ (by rfl) ((HOwn.out.alloc _).drew) ⟨wr.heap.size, 0, none⟩ 1 1 [.int .i64 x.a, .int .i64 x.b] (by rfl) (by rfl) (World.news_of_block (cs := #[.int .i64 x.a, .int .i64 x.b]) (t := 28) (fr := (0, 0)) (heap_alloc_new wr _)) (by simp [Value.oneCell']) (by omega) (by unfold maxLen; omega) (by omega) (by simp; omega) (wr.heap.size + 1) (by simp) ?_
        intro g1 cap1 w1 hown1 hg1 hat1 hlt1
        obtain ⟨S1, y0, y1, y2, hb1⟩ := HK.out _ hg1
        have z1 := y2.cell1
        have z2 := y2.frozen 1
        refine hK.out _ _ S1 (fun hHeld => ?_)
        clear hK K
        try simp only [Act.put, List.getElem_toArray, List.getElem_cons_succ, List.getElem_cons_zero, List.setIfInBounds_toArray, List.set_cons_zero, List.set_cons_succ]
        refine wpAnyH_ready (rs := [17]) (by kernel_rfl) (by simp) ?_
        refine AllReadyH.cons rfl (fun K hK => ?_) AllReadyH.nil
        go_simp
        refine hK.out _ _ S1 (fun hHeld => ?_)
        clear hK K
        try simp only [Act.put, List.getElem_toArray, List.getElem_cons_succ, List.getElem_cons_zero, List.setIfInBounds_toArray, List.set_cons_zero, List.set_cons_succ]
        refine wpAnyH_ready (rs := [18]) (by kernel_rfl) (by simp) ?_
        refine AllReadyH.cons rfl (fun K hK => ?_) AllReadyH.nil
        go_simp
        refine hK.out _ _ (HS2.out _ _ _ S1) (fun hHeld => ?_)
        clear hK K
        try simp only [Act.put, List.getElem_toArray, List.getElem_cons_succ, List.getElem_cons_zero, List.setIfInBounds_toArray, List.set_cons_zero, List.set_cons_succ]
        refine wpAnyH_done (by kernel_rfl) ?_ _
        have lg := (hown1.lt g1 rfl).1
        have HO := hideIt (own_setOther hown1 (w.heap.size + 1 + 1) 1 (.slice (some ⟨g1, 0, none⟩) (k + 1) cap1) (by omega))
        have q0 := y0.setOther (j := 1) (.slice (some ⟨g1, 0, none⟩) (k + 1) cap1) (show w.heap.size ≠ w.heap.size + 1 + 1 by omega)
        have q1 := y1.setOther (j := 1) (.slice (some ⟨g1, 0, none⟩) (k + 1) cap1) (show w.heap.size + 1 ≠ w.heap.size + 1 + 1 by omega)
        have q2 := y2.set1 (.slice (some ⟨g1, 0, none⟩) (k + 1) cap1)
        have q3 := hb1.setCell (p := ⟨w.heap.size + 1 + 1, 1, none⟩) (by show _ ≤ w.heap.size + 1 + 1; omega) (.slice (some ⟨g1, 0, none⟩) (k + 1) cap1)
        clear hown1 hg1 HOwn S1 HK hrow
        go_wp2
        exact ⟨⟨k + 1, _, _, by omega, by go_num, q0, q1, q2, by rw [HX.out]; exact HO.out, q3⟩, by simp [intOf]; omega⟩
    · obtain rfl : k = n := by omega
      have e : ls.take k = ls := List.take_of_length_le (by omega)
      rw [e] at hown
      have HO := hideIt hown
      have r0 := x1.cell0
      have r1 := x1.cell1
      have r2 := x1.frozen 0
      have r3 := x1.frozen 1
      have c0 := x2.cell0
      clear hown e
      have s2 := x1.set2 (.int .i64 N) (.slice a' k c')
      have s0 := s2.cell0
      have s1 := s2.cell1
      have HO2 := hideIt (own_setLow (own_setLow HO.out (w.heap.size + 1) 0 (.int .i64 N) (by omega)) (w.heap.size + 1) 1 (.slice a' k c') (by omega))
      have q3 := (hb.setCell (p := ⟨w.heap.size + 1, 0, none⟩) (by show _ ≤ w.heap.size + 1; omega) (.int .i64 N)).setCell (p := ⟨w.heap.size + 1, 1, none⟩) (by show _ ≤ w.heap.size + 1; omega) (.slice a' k c')
      clear s2
      go_wp2
      exact bodyPost_ret (v := .agg #[.int .i64 N, .slice a' k c']) (by simp [results, Tryz.results27, go_sem, s0, s1]) rfl ⟨a', c', rfl, own_mono HO2.out (by omega), q3⟩

end Go.Proofs.YtpfkfbmghddepaaGreat
