/- The library's BinarySearchFunc over edges, at the program's compareEdges. The library's Grow (of nothing) and Concat, over edges. The program's GraphOk and HasEdge. The library's Index and Contains over edges; the program's HasEdge. The program's AddEdge. Where a law stands that looks at fresh memory: graphs in ranges of blocks of their own. -/
import Derived.Test.YtgdlpmmbeacejaaDoorKICmp
import Derived.Test.YtgdlpmmbeacejaaDoorKHe13
import Derived.Lib.AppendZerosOnto
import Derived.Lib.Walk
import Derived.Lib.SliceRun
import Derived.Laws.AppendOwnNone
namespace Go.Proofs.YtgdlpmmbeacejaaDoor.O
open Go.RowKit

end Go.Proofs.YtgdlpmmbeacejaaDoor.O
namespace Go.Proofs.YtgdlpmmbeacejaaDoor.O
open Go.RowKit

theorem own_form {w : World} {B e s n : Nat} {v : Value} {xs : List Value} (h : w.ownsRow B e s v n xs) : ∃ a c, v = .slice a n c := by
  rcases h.2 with ⟨hv, h0⟩ | ⟨g, cap, cur, hv, _⟩
  · subst h0; exact ⟨none, 0, hv⟩
  · exact ⟨_, cap, hv⟩
/-- one of the lists that are put together -/
structure Part where
  a : Option Addr
  m : Nat
  c : Nat
  es : List EdgeV
/-- the lists stand in block b -/
def Parts (w : World) (b : Nat) (ps : List Part) : Prop :=
  b < w.heap.size ∧ ∀ (j : Nat) (p : Part), ps[j]? = some p → w.cell? ⟨b, j, none⟩ = some (.slice p.a p.m p.c) ∧ Es w w.heap.size p.a p.m p.es ∧ (p.a = none → p.m = 0 ∧ p.c = 0)
def pLen (ps : List Part) : Nat := (ps.map fun p => p.m).sum
def pAll (ps : List Part) : List EdgeV := ps.flatMap fun p => p.es
theorem pLen_snoc (ps : List Part) (p : Part) : pLen (ps ++ [p]) = pLen ps + p.m := by simp [pLen]
theorem pAll_snoc (ps : List Part) (p : Part) : pAll (ps ++ [p]) = pAll ps ++ p.es := by simp [pAll]
theorem pLen_take (ps : List Part) (k : Nat) : pLen (ps.take k) ≤ pLen ps := by
  have h := congrArg pLen (List.take_append_drop k ps)
  have e : ∀ a b : List Part, pLen (a ++ b) = pLen a + pLen b := fun a b => by simp [pLen]
  rw [e] at h
  omega
theorem pAll_len {w : World} {b : Nat} {ps : List Part} (h : Parts w b ps) (k : Nat) : (pAll (ps.take k)).length = pLen (ps.take k) := by
  induction k with
  | zero => simp [pAll, pLen]
  | succ k ih =>
    by_cases hk : k < ps.length
    · obtain ⟨p, hp⟩ : ∃ p, ps[k]? = some p := ⟨ps[k], List.getElem?_eq_getElem hk⟩
      rw [take_snocF ps k p hp, pAll_snoc, pLen_snoc, List.length_append, ih, (h.2 k p hp).2.1.1]
    · rw [List.take_of_length_le (by omega), ← List.take_of_length_le (by omega : ps.length ≤ k)]; exact ih

theorem Es.news {w : World} {B b off n : Nat} {es : List EdgeV} (h : Es w B (some ⟨b, off, none⟩) n es) : ∀ j u, (ecells es)[j]? = some u → w.cell? ((⟨b, off, none⟩ : Addr).add j) = some u := by
  intro j u hj
  have hl : j < es.length * 2 := by have := (List.getElem?_eq_some_iff.1 hj).1; rw [ecells_length] at this; exact this
  have hn := h.1
  rcases h.2 with h0 | ⟨b', off', hb, _, hc⟩
  · omega
  · simp at hb
    obtain ⟨rfl, rfl⟩ := hb
    obtain ⟨f, hf⟩ : ∃ f, es[j / 2]? = some f := ⟨es[j / 2]'(by omega), List.getElem?_eq_getElem (by omega)⟩
    obtain ⟨c0, c1⟩ := hc _ f hf
    obtain ⟨d0, d1⟩ := ecells_at es _ f hf
    rw [show ((⟨b, off, none⟩ : Addr).add j) = ⟨b, off + j, none⟩ by by_cases h0 : j = 0 <;> simp [Addr.add, h0]]
    rcases (show j = j / 2 * 2 ∨ j = j / 2 * 2 + 1 by omega) with e | e
    · rw [← e] at d0 c0
      rw [d0] at hj
      rw [c0]
      exact hj
    · rw [← e] at d1
      rw [Nat.add_assoc, ← e] at c1
      rw [d1] at hj
      rw [c1]
      exact hj
theorem ecells_one {es : List EdgeV} : ∀ u ∈ ecells es, u.oneCell' = true := by
  intro u hu
  simp only [ecells, List.mem_flatMap] at hu
  obtain ⟨e, _, he⟩ := hu
  simp [ecell] at he
  rcases he with rfl | rfl <;> rfl

end Go.Proofs.YtgdlpmmbeacejaaDoor.O
namespace Go.Proofs.YtgdlpmmbeacejaaDoor.O
open Go.RowKit

theorem cmpE_ge (d e : EdgeV) (b : Bool) (h : lt d e = b) : decide (0 ≤ cmpE d e) = !b := by
  cases b with
  | true => have := (cmpE_neg d e).2 h; simp; omega
  | false =>
    have : ¬ cmpE d e < 0 := fun h2 => by rw [(cmpE_neg d e).1 h2] at h; cases h
    simp; omega

set_option maxRecDepth 100000 in
set_option maxHeartbeats 2000000 in
theorem edgesOk_any (N : Int) (es : List EdgeV) (n : Nat) (a : Option Addr) (c : Nat) (hn : n ≤ 1048576) (w : World) (h : Es w w.heap.size a n es) :
    Calls Tryd.prog 71 #[.int .i64 N, .slice a n c] w fun e w' => e = .returned (.bool (chk N es && decide (es.length ≤ 66))) ∧ Below w.heap.size w w' := by
  obtain ⟨hlen, hrow⟩ := h
  have HR := hideIt hrow
  clear hrow
  by_cases g66 : 66 < n
  · have d66 : decide ((66 : Int) < (n : Int)) = true := decide_eq_true (by omega)
    have HG : Hid (decide (es.length ≤ 66) = false) := decide_eq_false (by omega)
    go_enter Tryd.func71, Tryd.ntmps71
    go_wp2
    go_ret
    exact ⟨by rw [HG.out]; simp, Below.refl _ _⟩
  · have d66 : decide ((66 : Int) < (n : Int)) = false := decide_eq_false (by omega)
    have HG : Hid (decide (es.length ≤ 66) = true) := decide_eq_true (by omega)
    go_enter Tryd.func71, Tryd.ntmps71
    go_wp2
    go_loopw [12] (fun i wr => ∃ k : Nat, k ≤ n ∧ i = .int .i64 (k : Int) ∧ Hid (∀ j, j < k → chkAt N es j = true) ∧ Below w.heap.size w wr) (fun i _ => n - (intOf i).toNat)
    case atStart => exact ⟨0, by omega, rfl, fun j hj => by omega, Below.refl _ _⟩
    case round =>
      obtain ⟨k, hk, rfl, hck, hb⟩ := hrel
      by_cases hlt : k < n
      · rcases HR.out with hz | ⟨b, off, rfl, hbl, hc⟩
        · omega
        · obtain ⟨f, hf⟩ : ∃ f, es[k]? = some f := ⟨es[k]'(by omega), List.getElem?_eq_getElem (by omega)⟩
          obtain ⟨c0, c1⟩ := hc k f hf
          have e0 : wr.cell? ⟨b, off + k * 2, none⟩ = some (.int .i64 f.1) := by rw [hb.cell hbl]; exact c0
          have e1 : wr.cell? ⟨b, off + k * 2 + 1, none⟩ = some (.int .i64 f.2) := by rw [hb.cell hbl]; exact c1
          have b1 : (0 : Int) ≤ (k : Int) := by omega
          have b2 : (k : Int) < (n : Int) := by omega
          have z0 : wr.heap.size < (wr.alloc (.cells #[.int .i64 f.1, .int .i64 f.2] 100)).heap.size := by simp
          have hb5 : Below w.heap.size w (wr.alloc (.cells #[.int .i64 f.1, .int .i64 f.2] 100)) := hb.alloc hb.size _
          have hbd : Below (wr.alloc (.cells #[.int .i64 f.1, .int .i64 f.2] 100)).heap.size (wr.alloc (.cells #[.int .i64 f.1, .int .i64 f.2] 100)) (wr.alloc (.cells #[.int .i64 f.1, .int .i64 f.2] 100)).drew := (Below.refl _ _).drew
          have HZ := hideIt (fun W (hW : Below (wr.alloc (.cells #[.int .i64 f.1, .int .i64 f.2] 100)).heap.size (wr.alloc (.cells #[.int .i64 f.1, .int .i64 f.2] 100)) W) => hb5.trans (hW.mono hb5.size))
          have HE : Hid (∀ W : World, Below (wr.alloc (.cells #[.int .i64 f.1, .int .i64 f.2] 100)).heap.size (wr.alloc (.cells #[.int .i64 f.1, .int .i64 f.2] 100)) W → Calls Tryd.prog 73 #[.int .i64 N, .agg #[.int .i64 f.1, .int .i64 f.2]] W fun e w' => e = .returned (.bool (eB N f)) ∧ Below (wr.alloc (.cells #[.int .i64 f.1, .int .i64 f.2] 100)).heap.size (wr.alloc (.cells #[.int .i64 f.1, .int .i64 f.2] 100)) w') := fun W hW =>
            (iEdgeOk_any N f W).mono fun _ _ ⟨he, hb'⟩ => ⟨he, hW.trans (hb'.mono hW.size)⟩
          have HK : Hid (∀ W : World, Below (wr.alloc (.cells #[.int .i64 f.1, .int .i64 f.2] 100)).heap.size (wr.alloc (.cells #[.int .i64 f.1, .int .i64 f.2] 100)) W → (W.cell? ⟨wr.heap.size, 0, none⟩ = some (.int .i64 f.1) ∧ W.cell? ⟨wr.heap.size, 1, none⟩ = some (.int .i64 f.2))) := fun W hW =>
            ⟨by rw [hW.cell z0]; simp, by rw [hW.cell z0]; simp⟩
          cases hE : eB N f with
          | false =>
            rw [hE] at HE
            have HN := hideIt (chk_no (by omega : k < es.length) (chkAt_no hf hE))
            clear hf hc c0 c1 hE hck
            go_wp2
            refine wp_region_any (by kernel_rfl) ?_
            change wpAny _ _ _ _ _ _ _ (World.drew _)
            refine takeOp (i := 0) (v := ?_) rfl (by kernel_rfl) (by kernel_rfl) (by kernel_rfl) (fun _ _ _ h => h) (by kernel_rfl) ?_ ?_
            rotate_left
            · intro w; go_simp; try with_reducible rfl
            refine wpAny_ready (rs := [1]) (by kernel_rfl) (by simp) ?_
            refine AllReady.cons rfl (fun K hK => ?_) AllReady.nil
            go_simp
            refine hK _ _ ?_
            clear hK K
            refine wpAny_ready (rs := [2]) (by kernel_rfl) (by simp) ?_
            refine AllReady.cons rfl (fun K hK => ?_) AllReady.nil
            go_wp2_with (go_at_call 73; refine (HE.out _ hbd).mono ?_; rintro e w1 ⟨rfl, hb3⟩; refine Hid.out ?_)
            refine (show ∀ {p : Prop}, p → Hid p from fun h => h) ?_
            try refine hK _ _ ?_
            clear hK K
            refine wpAny_ready (rs := [3]) (by kernel_rfl) (by simp) ?_
            refine AllReady.cons rfl (fun K hK => ?_) AllReady.nil
            go_simp
            refine hK _ _ ?_
            clear hK K
            refine wpAny_ready (rs := [4]) (by kernel_rfl) (by simp) ?_
            refine AllReady.cons rfl (fun K hK => ?_) AllReady.nil
            go_simp
            refine hK _ _ ?_
            clear hK K
            refine skipOp (i := 5) rfl (by kernel_rfl) (by kernel_rfl) (by kernel_rfl) (fun _ _ _ h => h) (by kernel_rfl) ?_
            refine skipOp (i := 6) rfl (by kernel_rfl) (by kernel_rfl) (by kernel_rfl) (fun _ _ _ h => h) (by kernel_rfl) ?_
            refine skipOp (i := 7) rfl (by kernel_rfl) (by kernel_rfl) (by kernel_rfl) (fun _ _ _ h => h) (by kernel_rfl) ?_
            refine skipOp (i := 8) rfl (by kernel_rfl) (by kernel_rfl) (by kernel_rfl) (fun _ _ _ h => h) (by kernel_rfl) ?_
            refine skipOp (i := 9) rfl (by kernel_rfl) (by kernel_rfl) (by kernel_rfl) (fun _ _ _ h => h) (by kernel_rfl) ?_
            refine skipOp (i := 10) rfl (by kernel_rfl) (by kernel_rfl) (by kernel_rfl) (fun _ _ _ h => h) (by kernel_rfl) ?_
            refine skipOp (i := 11) rfl (by kernel_rfl) (by kernel_rfl) (by kernel_rfl) (fun _ _ _ h => h) (by kernel_rfl) ?_
            refine skipOp (i := 12) rfl (by kernel_rfl) (by kernel_rfl) (by kernel_rfl) (fun _ _ _ h => h) (by kernel_rfl) ?_
            refine skipOp (i := 13) rfl (by kernel_rfl) (by kernel_rfl) (by kernel_rfl) (fun _ _ _ h => h) (by kernel_rfl) ?_
            refine skipOp (i := 14) rfl (by kernel_rfl) (by kernel_rfl) (by kernel_rfl) (fun _ _ _ h => h) (by kernel_rfl) ?_
            refine skipOp (i := 15) rfl (by kernel_rfl) (by kernel_rfl) (by kernel_rfl) (fun _ _ _ h => h) (by kernel_rfl) ?_
            refine skipOp (i := 16) rfl (by kernel_rfl) (by kernel_rfl) (by kernel_rfl) (fun _ _ _ h => h) (by kernel_rfl) ?_
            refine wpAny_ready (rs := [17]) (by kernel_rfl) (by simp) ?_
            refine AllReady.cons rfl (fun K hK => ?_) AllReady.nil
            go_simp
            refine hK _ _ ?_
            clear hK K
            refine wpAny_done (by kernel_rfl) ?_ _
            go_wp2
            go_ret
            exact ⟨by rw [HN.out]; rfl, HZ.out _ hb3⟩
          | true =>
            rw [hE] at HE
            rcases k with _ | i
            · have HY := hideIt (show chkAt N es 0 = true by rw [chkAt_zero hf]; exact hE)
              clear hf hc c0 c1 hE
              rw [Nat.zero_mul, Nat.add_zero] at e0 e1
              go_wp2
              refine wp_region_any (by kernel_rfl) ?_
              change wpAny _ _ _ _ _ _ _ (World.drew _)
              refine takeOp (i := 0) (v := ?_) rfl (by kernel_rfl) (by kernel_rfl) (by kernel_rfl) (fun _ _ _ h => h) (by kernel_rfl) ?_ ?_
              rotate_left
              · intro w; go_simp; try with_reducible rfl
              refine wpAny_ready (rs := [1]) (by kernel_rfl) (by simp) ?_
              refine AllReady.cons rfl (fun K hK => ?_) AllReady.nil
              go_simp
              refine hK _ _ ?_
              clear hK K
              refine wpAny_ready (rs := [2]) (by kernel_rfl) (by simp) ?_
              refine AllReady.cons rfl (fun K hK => ?_) AllReady.nil
              go_wp2_with (go_at_call 73; refine (HE.out _ hbd).mono ?_; rintro e w1 ⟨rfl, hb3⟩; refine Hid.out ?_)
              refine (show ∀ {p : Prop}, p → Hid p from fun h => h) ?_
              try refine hK _ _ ?_
              clear hK K
              refine wpAny_ready (rs := [3]) (by kernel_rfl) (by simp) ?_
              refine AllReady.cons rfl (fun K hK => ?_) AllReady.nil
              go_simp
              refine hK _ _ ?_
              clear hK K
              refine wpAny_ready (rs := [4]) (by kernel_rfl) (by simp) ?_
              refine AllReady.cons rfl (fun K hK => ?_) AllReady.nil
              go_simp
              refine hK _ _ ?_
              clear hK K
              refine wpAny_ready (rs := [5]) (by kernel_rfl) (by simp) ?_
              refine AllReady.cons rfl (fun K hK => ?_) AllReady.nil
              go_simp
              refine hK _ _ ?_
              clear hK K
              refine wpAny_ready (rs := [6]) (by kernel_rfl) (by simp) ?_
              refine AllReady.cons rfl (fun K hK => ?_) AllReady.nil
              go_simp
              refine hK _ _ ?_
              clear hK K
              refine wpAny_ready (rs := [7]) (by kernel_rfl) (by simp) ?_
              refine AllReady.cons rfl (fun K hK => ?_) AllReady.nil
              go_simp
              refine hK _ _ ?_
              clear hK K
              refine skipOp (i := 8) rfl (by kernel_rfl) (by kernel_rfl) (by kernel_rfl) (fun _ _ _ h => h) (by kernel_rfl) ?_
              refine skipOp (i := 9) rfl (by kernel_rfl) (by kernel_rfl) (by kernel_rfl) (fun _ _ _ h => h) (by kernel_rfl) ?_
              refine skipOp (i := 10) rfl (by kernel_rfl) (by kernel_rfl) (by kernel_rfl) (fun _ _ _ h => h) (by kernel_rfl) ?_
              refine skipOp (i := 11) rfl (by kernel_rfl) (by kernel_rfl) (by kernel_rfl) (fun _ _ _ h => h) (by kernel_rfl) ?_
              refine skipOp (i := 12) rfl (by kernel_rfl) (by kernel_rfl) (by kernel_rfl) (fun _ _ _ h => h) (by kernel_rfl) ?_
              refine skipOp (i := 13) rfl (by kernel_rfl) (by kernel_rfl) (by kernel_rfl) (fun _ _ _ h => h) (by kernel_rfl) ?_
              refine skipOp (i := 14) rfl (by kernel_rfl) (by kernel_rfl) (by kernel_rfl) (fun _ _ _ h => h) (by kernel_rfl) ?_
              refine skipOp (i := 15) rfl (by kernel_rfl) (by kernel_rfl) (by kernel_rfl) (fun _ _ _ h => h) (by kernel_rfl) ?_
              refine wpAny_ready (rs := [16]) (by kernel_rfl) (by simp) ?_
              refine AllReady.cons rfl (fun K hK => ?_) AllReady.nil
              go_simp
              refine hK _ _ ?_
              clear hK K
              refine wpAny_ready (rs := [17]) (by kernel_rfl) (by simp) ?_
              refine AllReady.cons rfl (fun K hK => ?_) AllReady.nil
              go_simp
              refine hK _ _ ?_
              clear hK K
              refine wpAny_done (by kernel_rfl) ?_ _
              go_wp2
              exact ⟨⟨1, by omega, by go_num, fun j hj => by
                obtain rfl : j = 0 := by omega
                exact HY.out, HZ.out _ hb3⟩, by simp [intOf]; omega⟩
            · obtain ⟨d, hd⟩ : ∃ d, es[i]? = some d := ⟨es[i]'(by omega), List.getElem?_eq_getElem (by omega)⟩
              obtain ⟨c2, c3⟩ := hc i d hd
              have HK2 : Hid (∀ W : World, Below (wr.alloc (.cells #[.int .i64 f.1, .int .i64 f.2] 100)).heap.size (wr.alloc (.cells #[.int .i64 f.1, .int .i64 f.2] 100)) W → (W.cell? ⟨b, off + i * 2, none⟩ = some (.int .i64 d.1) ∧ W.cell? ⟨b, off + i * 2 + 1, none⟩ = some (.int .i64 d.2))) := fun W hW =>
                ⟨by rw [(HZ.out W hW).cell hbl]; exact c2, by rw [(HZ.out W hW).cell hbl]; exact c3⟩
              have HC := hideIt (chkAt_succ (n := N) hf hd)
              have HL2 : Hid (∀ W : World, Below (wr.alloc (.cells #[.int .i64 f.1, .int .i64 f.2] 100)).heap.size (wr.alloc (.cells #[.int .i64 f.1, .int .i64 f.2] 100)) W → Calls Tryd.prog 74 #[.agg #[.int .i64 d.1, .int .i64 d.2], .agg #[.int .i64 f.1, .int .i64 f.2]] W fun e w' => e = .returned (.int .i64 (cmpE d f)) ∧ Below (wr.alloc (.cells #[.int .i64 f.1, .int .i64 f.2] 100)).heap.size (wr.alloc (.cells #[.int .i64 f.1, .int .i64 f.2] 100)) w') := fun W hW =>
                (compareEdges_any d f W).mono fun _ _ ⟨he, hb'⟩ => ⟨he, hW.trans (hb'.mono hW.size)⟩
              have HE0 := hideIt hE
              have ek : ((i + 1 : Nat) : Int) = (i : Int) + 1 := by omega
              rw [ek] at b1 b2
              have b3 : (0 : Int) ≤ (i : Int) := by omega
              have b4 : (i : Int) < (n : Int) := by omega
              have tn : ((i : Int) + 1).toNat = i + 1 := by omega
              have d0 : decide ((0 : Int) < (i : Int) + 1) = true := decide_eq_true (by omega)
              have hw1 : IntKind.i64.wrap (i : Int) = (i : Int) := by rw [IntKind.wrap_i64]; omega
              rw [ek]
              clear ek hf hd hc c0 c1 c2 c3 hE
              cases hL : lt d f with
              | true =>
                have dc := cmpE_ge d f true hL
                have HY := hideIt (show chkAt N es (i + 1) = true by rw [HC.out, HE0.out, hL]; rfl)
                clear HC hL HE0
                generalize cmpE d f = cv at HL2 dc
                go_wp2
                go_region_held3 (fun u => Below (wr.alloc (.cells #[.int .i64 f.1, .int .i64 f.2] 100)).heap.size (wr.alloc (.cells #[.int .i64 f.1, .int .i64 f.2] 100)) u ∧ (u.cell? ⟨wr.heap.size, 0, none⟩ = some (.int .i64 f.1) ∧ u.cell? ⟨wr.heap.size, 1, none⟩ = some (.int .i64 f.2)) ∧ u.cell? ⟨b, off + i * 2, none⟩ = some (.int .i64 d.1) ∧ u.cell? ⟨b, off + i * 2 + 1, none⟩ = some (.int .i64 d.2))
                  (first | exact ⟨hb4, HK.out _ hb4, HK2.out _ hb4⟩ | exact ⟨hb3, HK.out _ hb3, HK2.out _ hb3⟩ | exact ⟨hbd, HK.out _ hbd, HK2.out _ hbd⟩)
                  (first
                  | (go_at_call 73; refine (HE.out _ hbd).mono ?_; rintro e w1 ⟨rfl, hb3⟩)
                  | (go_at_call 74; refine (HL2.out _ hb3).mono ?_; rintro e w2 ⟨rfl, hb4⟩))
                all_goals
                  go_wp2
                  exact ⟨⟨i + 2, by omega, by go_num, fun j hj => by
                    by_cases hji : j = i + 1
                    · subst hji; exact HY.out
                    · exact hck.out j (by omega), HZ.out _ hb4⟩, by simp [intOf]; omega⟩
              | false =>
                have dc := cmpE_ge d f false hL
                have HN := hideIt (chk_no (by omega : i + 1 < es.length) (show chkAt N es (i + 1) = false by rw [HC.out, HE0.out, hL]; rfl))
                clear HC hL HE0
                generalize cmpE d f = cv at HL2 dc
                go_wp2
                go_region_held3 (fun u => Below (wr.alloc (.cells #[.int .i64 f.1, .int .i64 f.2] 100)).heap.size (wr.alloc (.cells #[.int .i64 f.1, .int .i64 f.2] 100)) u ∧ (u.cell? ⟨wr.heap.size, 0, none⟩ = some (.int .i64 f.1) ∧ u.cell? ⟨wr.heap.size, 1, none⟩ = some (.int .i64 f.2)) ∧ u.cell? ⟨b, off + i * 2, none⟩ = some (.int .i64 d.1) ∧ u.cell? ⟨b, off + i * 2 + 1, none⟩ = some (.int .i64 d.2))
                  (first | exact ⟨hb4, HK.out _ hb4, HK2.out _ hb4⟩ | exact ⟨hb3, HK.out _ hb3, HK2.out _ hb3⟩ | exact ⟨hbd, HK.out _ hbd, HK2.out _ hbd⟩)
                  (first
                  | (go_at_call 73; refine (HE.out _ hbd).mono ?_; rintro e w1 ⟨rfl, hb3⟩)
                  | (go_at_call 74; refine (HL2.out _ hb3).mono ?_; rintro e w2 ⟨rfl, hb4⟩))
                all_goals
                  go_wp2
                  go_ret
                  exact ⟨by rw [HN.out]; rfl, HZ.out _ hb4⟩
      · have HY := hideIt (chk_yes (n := N) (es := es) (fun j hj => hck.out j (by omega)))
        clear hck
        go_wp2
        go_ret
        exact ⟨by rw [HY.out, HG.out]; rfl, hb⟩

set_option maxHeartbeats 1000000 in
theorem iGraphOk_any (N : Int) (es : List EdgeV) (n : Nat) (a : Option Addr) (c : Nat) (hn : n ≤ 1048576) (w : World) (h : Es w w.heap.size a n es) :
    Calls Tryd.prog 68 #[.agg #[.int .i64 N, .slice a n c]] w fun e w' => e = .returned (.bool (gB N es)) ∧ Below w.heap.size w w' := by
  have HT := hideIt (edgesOk_any N es n a c hn (w.alloc (.cells #[.int .i64 N, .slice a n c] 116)) ((h.alloc (Nat.le_refl _) _).mono (by simp)))
  have HI := hideIt vertsOk_any
  clear h
  by_cases h1 : 1 ≤ N ∧ N ≤ 12
  · have r1 : decide (1 ≤ N ∧ N ≤ 12) = true := by simpa using h1
    have HG : Hid (gB N es = (chk N es && decide (es.length ≤ 66))) := by show _ = _; unfold gB; rw [r1]; rfl
    generalize (chk N es && decide (es.length ≤ 66)) = r at HG HT
    go_enter Tryd.func68, Tryd.ntmps68
    go_wp2_with (first | (go_at_call 61; refine (HI.out _ _).mono ?_; rintro e w1 ⟨rfl, rfl⟩) | (go_at_call 71; refine HT.out.mono ?_; rintro e w2 ⟨rfl, hb2⟩))
    go_ret
    exact ⟨by rw [HG.out]; rfl, ((Below.refl _ _).alloc (Nat.le_refl _) _).trans (hb2.mono (by simp))⟩
  · have r1 : decide (1 ≤ N ∧ N ≤ 12) = false := by simpa using h1
    have HG : Hid (gB N es = false) := by show _ = _; unfold gB; rw [r1]; rfl
    clear HT
    go_enter Tryd.func68, Tryd.ntmps68
    go_wp2_with (go_at_call 61; refine (HI.out _ _).mono ?_; rintro e w1 ⟨rfl, rfl⟩)
    go_ret
    exact ⟨by rw [HG.out]; rfl, (Below.refl _ _).alloc (Nat.le_refl _) _⟩
end Go.Proofs.YtgdlpmmbeacejaaDoor.O
namespace Go.Proofs.YtgdlpmmbeacejaaDoor.O
open Go.RowKit

theorem idxOf_le {es : List EdgeV} {e : EdgeV} {k : Nat} (h : es[k]? = some e) : es.idxOf e ≤ k := by
  induction es generalizing k with
  | nil => simp at h
  | cons x es ih =>
    rw [List.idxOf_cons]
    by_cases hx : x = e
    · simp [hx]
    · cases k with
      | zero => simp at h; exact absurd h hx
      | succ k =>
        have h1 := ih (k := k) (by simpa using h)
        have h2 : (x == e) = false := by simpa using hx
        rw [h2]
        simp
        omega

/-- the place of an edge -/
def idxE (es : List EdgeV) (e : EdgeV) : Int := if e ∈ es then (es.idxOf e : Int) else -1
theorem idxE_yes {es : List EdgeV} {e : EdgeV} {k : Nat} (h : es[k]? = some e) (hn : ∀ j, j < k → es[j]? ≠ some e) : idxE es e = (k : Int) := by
  have hm : e ∈ es := List.mem_of_getElem? h
  unfold idxE
  rw [if_pos hm]
  have h1 := List.idxOf_lt_length_iff.2 hm
  have h2 : es[es.idxOf e]? = some e := by rw [List.getElem?_eq_getElem h1, List.getElem_idxOf h1]
  have h3 : ¬ es.idxOf e < k := fun h4 => hn _ h4 h2
  have h5 : es.idxOf e ≤ k := idxOf_le h
  omega
theorem idxE_no {es : List EdgeV} {e : EdgeV} (h : ∀ j, j < es.length → es[j]? ≠ some e) : idxE es e = -1 := by
  unfold idxE
  rw [if_neg]
  intro hm
  obtain ⟨j, hj, rfl⟩ := List.getElem_of_mem hm
  exact h j hj (List.getElem?_eq_getElem hj)
theorem idxE_has (es : List EdgeV) (e : EdgeV) : decide (0 ≤ idxE es e) = hasB es e := by
  unfold idxE hasB
  by_cases h : e ∈ es
  · rw [if_pos h]; simp [h]
  · rw [if_neg h]; simp [h]

end Go.Proofs.YtgdlpmmbeacejaaDoor.O
namespace Go.Proofs.YtgdlpmmbeacejaaDoor.O
open Go.RowKit

/-- a slice as the machine has them -/
def Sl (a : Option Addr) (n c : Nat) : Prop := n ≤ c ∧ c ≤ maxLen ∧ (a = none ∧ n = 0 ∧ c = 0 ∨ ∃ b off, a = some ⟨b, off, none⟩)

/-- the answer of AddEdge, TakeEdge: a graph of the answer's own, or nothing -/
def GAns (w : World) (N : Int) (o : Option (List EdgeV)) (e : Ending) (w' : World) : Prop :=
  ∃ a m c, e = .returned (.tuple #[.agg #[.int .i64 (if o.isSome then N else 0), .slice a m c], .bool o.isSome]) ∧ w'.ownsRow w.heap.size 100 2 (.slice a m c) m (ecells (o.getD [])) ∧ Below w.heap.size w w'

theorem set_other {u : World} {G j x o : Nat} {v : Value} (h : x ≠ G) : (u.setCell ⟨G, j, none⟩ v).cell? ⟨x, o, none⟩ = u.cell? ⟨x, o, none⟩ := World.cell?_of_block (w := u) (heap_setCell_other u ⟨G, j, none⟩ x v h)
theorem own_setLow {w : World} {B e s n : Nat} {v : Value} {xs : List Value} (h : w.ownsRow B e s v n xs) (G j : Nat) (u : Value) (hG : G < B) : (w.setCell ⟨G, j, none⟩ u).ownsRow B e s v n xs :=
  World.ownsRow.kept h (grownSet w G j u) (.inr (fun e => by have := (h.lt G (by simpa using e)).1; omega))

/-- the world behind the boxes -/
def w3 (w : World) (N : Int) (a : Option Addr) (n c : Nat) (f : EdgeV) : World :=
  ((w.alloc (.cells #[.int .i64 N, .slice a n c] 116)).alloc (.cells #[.int .i64 f.1, .int .i64 f.2] 100)).alloc (.cells #[.int .i64 0, .slice none 0 0] 116)
theorem w3_size (w : World) (N : Int) (a : Option Addr) (n c : Nat) (f : EdgeV) : (w3 w N a n c f).heap.size = w.heap.size + 3 := by simp [w3]
theorem w3_below (w : World) (N : Int) (a : Option Addr) (n c : Nat) (f : EdgeV) : Below w.heap.size w (w3 w N a n c f) := (((Below.refl _ _).alloc (Nat.le_refl _) _).alloc (by simp) _).alloc (by simp; omega) _

/-- what the boxes hold, whatever has come since -/
structure In3 (w : World) (N : Int) (a : Option Addr) (n c : Nat) (f : EdgeV) (u : World) : Prop where
  good : Good (w3 w N a n c f) u
theorem In3.cells {w : World} {N : Int} {a : Option Addr} {n c : Nat} {f : EdgeV} {u : World} (h : In3 w N a n c f u) :
    (u.cell? ⟨w.heap.size, 0, none⟩ = some (.int .i64 N) ∧ u.cell? ⟨w.heap.size, 1, none⟩ = some (.slice a n c)) ∧ (u.cell? ⟨w.heap.size + 1, 0, none⟩ = some (.int .i64 f.1) ∧ u.cell? ⟨w.heap.size + 1, 1, none⟩ = some (.int .i64 f.2)) := by
  have hs := w3_size w N a n c f
  refine ⟨⟨?_, ?_⟩, ?_, ?_⟩
  · rw [h.good.cell (by omega)]; simp [w3, go_sem]
  · rw [h.good.cell (by omega)]; simp [w3, go_sem]
  · rw [h.good.cell (by omega)]; simp [w3, go_sem]
  · rw [h.good.cell (by omega)]; simp [w3, go_sem]
theorem In3.out {w : World} {N : Int} {a : Option Addr} {n c : Nat} {f : EdgeV} {u : World} (h : In3 w N a n c f u) :
    (u.cell? ⟨w.heap.size + 1 + 1, 0, none⟩ = some (.int .i64 0) ∧ u.cell? ⟨w.heap.size + 1 + 1, 1, none⟩ = some (.slice none 0 0)) ∧ (u.frozen? ⟨w.heap.size + 1 + 1, 0, none⟩ = false ∧ u.frozen? ⟨w.heap.size + 1 + 1, 1, none⟩ = false) := by
  have hs := w3_size w N a n c f
  refine ⟨⟨?_, ?_⟩, ?_, ?_⟩
  · rw [h.good.cell (by omega)]; simp [w3, go_sem]
  · rw [h.good.cell (by omega)]; simp [w3, go_sem]
  · rw [Below.frozen h.good (by show w.heap.size + 1 + 1 < _; omega)]; simp [w3, go_sem]
  · rw [Below.frozen h.good (by show w.heap.size + 1 + 1 < _; omega)]; simp [w3, go_sem]
theorem In3.up {w : World} {N : Int} {a : Option Addr} {n c : Nat} {f : EdgeV} {u v : World} (h : In3 w N a n c f u) (hb : Below u.heap.size u v) : In3 w N a n c f v := ⟨h.good.up hb⟩
theorem In3.start (w : World) (N : Int) (a : Option Addr) (n c : Nat) (f : EdgeV) : In3 w N a n c f (w3 w N a n c f) := ⟨Good.refl _⟩
theorem In3.below {w : World} {N : Int} {a : Option Addr} {n c : Nat} {f : EdgeV} {u : World} (h : In3 w N a n c f u) : Below w.heap.size w u := (w3_below w N a n c f).trans (Below.mono h.good (by rw [w3_size]; omega))
theorem In3.size {w : World} {N : Int} {a : Option Addr} {n c : Nat} {f : EdgeV} {u : World} (h : In3 w N a n c f u) : w.heap.size + 3 ≤ u.heap.size := by have := h.good.size; rw [w3_size] at this; exact this
theorem In3.drew {w : World} {N : Int} {a : Option Addr} {n c : Nat} {f : EdgeV} {u : World} (h : In3 w N a n c f u) : In3 w N a n c f u.drew := ⟨h.good.drew⟩

theorem In3.cellsSet {w : World} {N : Int} {a : Option Addr} {n c : Nat} {f : EdgeV} {u : World} (h : In3 w N a n c f u) (v0 v1 : Value) :
    ((((u.setCell ⟨w.heap.size + 1 + 1, 0, none⟩ v0).setCell ⟨w.heap.size + 1 + 1, 1, none⟩ v1)).cell? ⟨w.heap.size, 0, none⟩ = some (.int .i64 N) ∧ (((u.setCell ⟨w.heap.size + 1 + 1, 0, none⟩ v0).setCell ⟨w.heap.size + 1 + 1, 1, none⟩ v1)).cell? ⟨w.heap.size, 1, none⟩ = some (.slice a n c)) ∧
      ((((u.setCell ⟨w.heap.size + 1 + 1, 0, none⟩ v0).setCell ⟨w.heap.size + 1 + 1, 1, none⟩ v1)).cell? ⟨w.heap.size + 1, 0, none⟩ = some (.int .i64 f.1) ∧ (((u.setCell ⟨w.heap.size + 1 + 1, 0, none⟩ v0).setCell ⟨w.heap.size + 1 + 1, 1, none⟩ v1)).cell? ⟨w.heap.size + 1, 1, none⟩ = some (.int .i64 f.2)) := by
  obtain ⟨⟨k0, k1⟩, k2, k3⟩ := h.cells
  refine ⟨⟨?_, ?_⟩, ?_, ?_⟩
  · rw [set_other (by omega), set_other (by omega)]; exact k0
  · rw [set_other (by omega), set_other (by omega)]; exact k1
  · rw [set_other (by omega), set_other (by omega)]; exact k2
  · rw [set_other (by omega), set_other (by omega)]; exact k3

theorem gans_yes {w u : World} {N : Int} {a : Option Addr} {n c : Nat} {f : EdgeV} (h : In3 w N a n c f u) {o : Option (List EdgeV)} {gs : List EdgeV} (ho : o = some gs) {B : Nat} {a' : Option Addr} {m' c' : Nat}
    (hB : w.heap.size + 3 ≤ B) (hown : u.ownsRow B 100 2 (.slice a' m' c') m' (ecells gs)) :
    GAns w N o (.returned (.tuple #[.agg #[.int .i64 N, .slice a' m' c'], .bool true])) ((u.setCell ⟨w.heap.size + 1 + 1, 0, none⟩ (.int .i64 N)).setCell ⟨w.heap.size + 1 + 1, 1, none⟩ (.slice a' m' c')) := by
  subst ho
  exact ⟨a', m', c', rfl, own_mono (own_setLow (own_setLow hown _ 0 _ (by omega)) _ 1 _ (by omega)) (by omega), (h.below.setCell (by show _ ≤ w.heap.size + 1 + 1; omega) _).setCell (by show _ ≤ w.heap.size + 1 + 1; omega) _⟩

theorem Es.take {w : World} {B : Nat} {a : Option Addr} {n : Nat} {es : List EdgeV} (h : Es w B a n es) {k : Nat} (hk : k ≤ n) : Es w B a k (es.take k) := by
  have hl := h.1
  refine ⟨by rw [List.length_take]; omega, ?_⟩
  rcases h.2 with h0 | ⟨b, off, ha, hb, hc⟩
  · exact .inl (by omega)
  · refine .inr ⟨b, off, ha, hb, fun j e he => hc j e ?_⟩
    have hj : j < k := by have := (List.getElem?_eq_some_iff.1 he).1; rw [List.length_take] at this; omega
    rw [List.getElem?_take_of_lt hj] at he
    exact he
theorem Es.drop {w : World} {B b off : Nat} {n : Nat} {es : List EdgeV} (h : Es w B (some ⟨b, off, none⟩) n es) {k : Nat} (hk : k ≤ n) : Es w B (some ⟨b, off + k * 2, none⟩) (n - k) (es.drop k) := by
  have hl := h.1
  refine ⟨by rw [List.length_drop]; omega, ?_⟩
  rcases h.2 with h0 | ⟨b', off', ha, hb, hc⟩
  · exact .inl (by omega)
  · simp at ha
    obtain ⟨rfl, rfl⟩ := ha
    refine .inr ⟨b, off + k * 2, rfl, hb, fun j e he => ?_⟩
    rw [List.getElem?_drop] at he
    have h1 := hc (k + j) e he
    rw [show off + k * 2 + j * 2 = off + (k + j) * 2 by omega]
    exact h1
theorem Es.none_of {w : World} {B : Nat} {a : Option Addr} {es : List EdgeV} (h : es.length = 0) : Es w B a 0 es := ⟨h, .inl rfl⟩
theorem Es.single (w : World) (f : EdgeV) : Es (w.alloc (.cells #[.int .i64 f.1, .int .i64 f.2] 100)) (w.alloc (.cells #[.int .i64 f.1, .int .i64 f.2] 100)).heap.size (some ⟨w.heap.size, 0, none⟩) 1 [f] := by
  refine ⟨rfl, .inr ⟨w.heap.size, 0, rfl, by simp, fun j e he => ?_⟩⟩
  cases j with
  | zero => simp at he; subst he; simp
  | succ j => simp at he

theorem gans_no {w u : World} {N : Int} {a : Option Addr} {n c : Nat} {f : EdgeV} (h : In3 w N a n c f u) {o : Option (List EdgeV)} (ho : o = none) :
    GAns w N o (.returned (.tuple #[.agg #[.int .i64 0, .slice none 0 0], .bool false])) ((u.setCell ⟨w.heap.size + 1 + 1, 0, none⟩ (.int .i64 0)).setCell ⟨w.heap.size + 1 + 1, 1, none⟩ (.slice none 0 0)) := by
  subst ho
  exact ⟨none, 0, 0, rfl, World.ownsRow_nil _ _ _ _, (h.below.setCell (by show _ ≤ w.heap.size + 1 + 1; omega) _).setCell (by show _ ≤ w.heap.size + 1 + 1; omega) _⟩

end Go.Proofs.YtgdlpmmbeacejaaDoor.O
namespace Go.Proofs.YtgdlpmmbeacejaaDoor.O
open Go.RowKit

/-- a graph in a block of its own -/
def Box2 (w : World) (b : Nat) (t : TypeId) (v0 v1 : Value) : Prop := w.heap[b]? = some (.cells #[v0, v1] t (0, 0))
theorem Box2.cell0 {w : World} {b : Nat} {t : TypeId} {v0 v1 : Value} (h : Box2 w b t v0 v1) : w.cell? ⟨b, 0, none⟩ = some v0 := by rw [cell_of_row w b 0 _ _ _ h]; rfl
theorem Box2.cell1 {w : World} {b : Nat} {t : TypeId} {v0 v1 : Value} (h : Box2 w b t v0 v1) : w.cell? ⟨b, 1, none⟩ = some v1 := by rw [cell_of_row w b 1 _ _ _ h]; rfl
theorem Box2.frozen {w : World} {b : Nat} {t : TypeId} {v0 v1 : Value} (h : Box2 w b t v0 v1) (j : Nat) : w.frozen? ⟨b, j, none⟩ = false := frozen_of_row w b j _ _ h
theorem Box2.lt {w : World} {b : Nat} {t : TypeId} {v0 v1 : Value} (h : Box2 w b t v0 v1) : b < w.heap.size := (Array.getElem?_eq_some_iff.1 h).1
theorem Box2.new (w : World) (t : TypeId) (v0 v1 : Value) (b : Nat) (hb : w.heap.size = b) : Box2 (w.alloc (.cells #[v0, v1] t)) b t v0 v1 := by subst hb; exact heap_alloc_new w _
theorem Box2.grown {w w' : World} {b : Nat} {t : TypeId} {v0 v1 : Value} {row : Option Nat} (h : Box2 w b t v0 v1) (hg : w.grownBy w' row) (hr : some b ≠ row) : Box2 w' b t v0 v1 := by
  unfold Box2; rw [hg.block b h.lt hr]; exact h
theorem Box2.alloc {w : World} {b : Nat} {t : TypeId} {v0 v1 : Value} (h : Box2 w b t v0 v1) (o : Obj) : Box2 (w.alloc o) b t v0 v1 := by
  unfold Box2; rw [Below.heap_alloc w o b h.lt]; exact h
theorem Box2.set {w : World} {b : Nat} {t : TypeId} {v0 v1 : Value} (h : Box2 w b t v0 v1) (u0 u1 : Value) : Box2 ((w.setCell ⟨b, 0, none⟩ u0).setCell ⟨b, 1, none⟩ u1) b t u0 u1 := by
  have h1 : (w.setCell ⟨b, 0, none⟩ u0).heap[b]? = some (.cells #[u0, v1] t (0, 0)) := by rw [heap_setCell_same w b 0 _ t u0 h]; rfl
  unfold Box2
  rw [heap_setCell_same _ b 1 _ t u1 h1]; rfl
theorem Box2.below {w w' : World} {b C : Nat} {t : TypeId} {v0 v1 : Value} (h : Box2 w b t v0 v1) (hb : Below C w w') (hC : b < C) : Box2 w' b t v0 v1 := by
  unfold Box2; rw [hb.block b hC]; exact h
theorem Good.set {w u : World} (h : Good w u) (b j : Nat) (v : Value) (hb : w.heap.size ≤ b) : Good w (u.setCell ⟨b, j, none⟩ v) := Below.setCell h (p := ⟨b, j, none⟩) hb v

/-- a graph that is ours: its box and its edges lie in blocks lo .. hi -/
structure GBox (u : World) (lo hi b : Nat) (M : Int) (a : Option Addr) (m c : Nat) (gs : List EdgeV) : Prop where
  box : Box2 u b 116 (.int .i64 M) (.slice a m c)
  own : u.ownsRow lo 100 2 (.slice a m c) m (ecells gs)
  least : lo ≤ b
  most : b < hi
  row : ∀ g, (Value.slice a m c).ownBlock = some g → g < hi
  there : hi ≤ u.heap.size

/-- what lies outside lo .. hi has not turned -/
structure Rng (lo hi : Nat) (u v : World) : Prop where
  os : v.os = u.os
  tape : v.tape = u.tape
  output : v.output = u.output
  size : u.heap.size ≤ v.heap.size
  block : ∀ k, k < u.heap.size → (k < lo ∨ hi ≤ k) → v.heap[k]? = u.heap[k]?

theorem Rng.of_below {u v : World} {lo hi : Nat} (h : Below u.heap.size u v) : Rng lo hi u v := ⟨h.os, h.tape, h.output, h.size, fun k hk _ => h.block k hk⟩
theorem Rng.of_grown {u v : World} {lo hi g : Nat} (h : u.grownBy v (some g)) (h1 : lo ≤ g) (h2 : g < hi) : Rng lo hi u v :=
  ⟨h.os, h.tape, h.output, h.size, fun k hk ho => h.block k hk (by simp; omega)⟩
theorem Rng.below {u v : World} {lo hi B : Nat} (h : Rng lo hi u v) (h1 : B ≤ lo) (h2 : B ≤ u.heap.size) : Below B u v := ⟨h.os, h.tape, h.output, h.size, fun k hk => h.block k (by omega) (.inl (by omega))⟩

theorem GBox.len {u : World} {lo hi b : Nat} {M : Int} {a : Option Addr} {m c : Nat} {gs : List EdgeV} (h : GBox u lo hi b M a m c gs) : gs.length = m := by
  have := h.own.1; rw [ecells_length] at this; omega
theorem GBox.es {u : World} {lo hi b : Nat} {M : Int} {a : Option Addr} {m c : Nat} {gs : List EdgeV} (h : GBox u lo hi b M a m c gs) : Es u u.heap.size a m gs := Es_of_own h.own
theorem GBox.rng {u v : World} {lo hi b l2 h2 : Nat} {M : Int} {a : Option Addr} {m c : Nat} {gs : List EdgeV} (h : GBox u lo hi b M a m c gs) (hr : Rng l2 h2 u v) (ho : hi ≤ l2 ∨ h2 ≤ lo) : GBox v lo hi b M a m c gs := by
  have hth := h.there
  have hb := h.least
  have hb' := h.most
  have g1 : ∀ k, lo ≤ k → k < hi → v.heap[k]? = u.heap[k]? := fun k h3 h4 => hr.block k (by omega) (by omega)
  refine ⟨?_, ?_, hb, hb', h.row, Nat.le_trans hth hr.size⟩
  · unfold Box2; rw [g1 b hb hb']; exact h.box
  · refine ⟨h.own.1, ?_⟩
    rcases h.own.2 with h3 | ⟨g, cap, cur, hv, hg, hcur, hrest⟩
    · exact .inl h3
    · refine .inr ⟨g, cap, cur, hv, hg, ?_, hrest⟩
      rw [g1 g hg (h.row g (by rw [hv]; rfl))]
      exact hcur
theorem GBox.up {u v : World} {lo hi b : Nat} {M : Int} {a : Option Addr} {m c : Nat} {gs : List EdgeV} (h : GBox u lo hi b M a m c gs) (hb : Below u.heap.size u v) : GBox v lo hi b M a m c gs :=
  h.rng (l2 := hi) (h2 := hi) (Rng.of_below hb) (.inl (Nat.le_refl _))
theorem GBox.cells {u : World} {lo hi b : Nat} {M : Int} {a : Option Addr} {m c : Nat} {gs : List EdgeV} (h : GBox u lo hi b M a m c gs) : u.cell? ⟨b, 0, none⟩ = some (.int .i64 M) ∧ u.cell? ⟨b, 1, none⟩ = some (.slice a m c) := ⟨h.box.cell0, h.box.cell1⟩

/-- a graph that a call has made is laid into a box: the box came ahead of the call -/
theorem GBox.stored {u : World} {lo b : Nat} {M : Int} {a : Option Addr} {m c : Nat} {gs : List EdgeV} {v0 v1 : Value} (hb : Box2 u b 116 v0 v1) (hl : lo ≤ b) (ho : u.ownsRow lo 100 2 (.slice a m c) m (ecells gs)) :
    GBox ((u.setCell ⟨b, 0, none⟩ (.int .i64 M)).setCell ⟨b, 1, none⟩ (.slice a m c)) lo ((u.setCell ⟨b, 0, none⟩ (.int .i64 M)).setCell ⟨b, 1, none⟩ (.slice a m c)).heap.size b M a m c gs := by
  have hne : (Value.slice a m c).ownBlock ≠ some b := fun e => by
    rcases ho.2 with ⟨h3, _⟩ | ⟨g, cap, cur, hv, hg, hcur, hrest⟩
    · simp at h3
      obtain ⟨rfl, _⟩ := h3
      cases e
    · simp at hv
      obtain ⟨rfl, rfl⟩ := hv
      have e' : some g = some b := e
      simp at e'
      rw [e'] at hcur
      have hbx : u.heap[b]? = some (.cells #[v0, v1] 116 (0, 0)) := hb
      rw [hbx] at hcur
      simp at hcur
  have ho1 : (u.setCell ⟨b, 0, none⟩ (.int .i64 M)).ownsRow lo 100 2 (.slice a m c) m (ecells gs) := World.ownsRow.kept ho (grownSet u b 0 _) (.inr hne)
  have ho' : ((u.setCell ⟨b, 0, none⟩ (.int .i64 M)).setCell ⟨b, 1, none⟩ (.slice a m c)).ownsRow lo 100 2 (.slice a m c) m (ecells gs) := World.ownsRow.kept ho1 (grownSet _ b 1 _) (.inr hne)
  have hb' := hb.set (.int .i64 M) (.slice a m c)
  exact ⟨hb', ho', hl, hb'.lt, fun g hg => (ho'.lt g hg).2, Nat.le_refl _⟩
/-- .. or comes behind it -/
theorem GBox.laid {u : World} {lo : Nat} {M : Int} {a : Option Addr} {m c : Nat} {gs : List EdgeV} (hl : lo ≤ u.heap.size) (ho : u.ownsRow lo 100 2 (.slice a m c) m (ecells gs)) :
    GBox (u.alloc (.cells #[.int .i64 M, .slice a m c] 116)) lo (u.alloc (.cells #[.int .i64 M, .slice a m c] 116)).heap.size u.heap.size M a m c gs :=
  ⟨Box2.new _ _ _ _ _ rfl, ho.alloc _, hl, by simp, fun g hg => by have := (ho.lt g hg).2; simp; omega, Nat.le_refl _⟩

/-- any box stands behind a call -/
def Keep (u v : World) : Prop := ∀ b t x y, Box2 u b t x y → Box2 v b t x y
theorem Keep.of {u v : World} (h : Below u.heap.size u v) : Keep u v := fun _ _ _ _ hb => hb.below h hb.lt
theorem Keep.nil {u v : World} (h : Keep u v) {b : Nat} (hb : Box2 u b 116 (.int .i64 0) (.slice none 0 0)) : Box2 v b 116 (.int .i64 0) (.slice none 0 0) := h _ _ _ _ hb
theorem own_up {w w' : World} {B e s n : Nat} {v : Value} {xs : List Value} (h : w.ownsRow B e s v n xs) (hb : Below w.heap.size w w') : w'.ownsRow B e s v n xs :=
  World.ownsRow.kept h (grown_of_below hb none) (by cases hv : v.ownBlock <;> simp)

/-- what is asked of either side -/
theorem ans_G {F : Nat} {N : Int} {fs : List EdgeV} {n : Nat} {x : EdgeV} {o : Option (List EdgeV)}
    (H : ∀ (g : Nat) (w : World) (_ : Es w w.heap.size (some ⟨g, 0, none⟩) n fs), Calls Tryd.prog F #[.agg #[.int .i64 N, .slice (some ⟨g, 0, none⟩) n n], .agg #[.int .i64 x.1, .int .i64 x.2]] w (GAns w N o))
    {u0 u : World} (h : Good u0 u) {B g : Nat} (ho : u.ownsRow B 100 2 (.slice (some ⟨g, 0, none⟩) n n) n (ecells fs)) :
    Calls Tryd.prog F #[.agg #[.int .i64 N, .slice (some ⟨g, 0, none⟩) n n], .agg #[.int .i64 x.1, .int .i64 x.2]] u fun e v => ∃ aw mw cw, e = .returned (.tuple #[.agg #[.int .i64 (if o.isSome then N else 0), .slice aw mw cw], .bool o.isSome]) ∧ v.ownsRow u0.heap.size 100 2 (.slice aw mw cw) mw (ecells (o.getD [])) ∧ Good u0 v ∧ Keep u v :=
  (H g u (Es_of_own ho)).mono fun _ _ ⟨aw, mw, cw, he, hw, hb⟩ => ⟨aw, mw, cw, he, own_mono hw h.size, h.up hb, Keep.of hb⟩

end Go.Proofs.YtgdlpmmbeacejaaDoor.O
