/- The program's laid: pieces of tours, one behind the other, in memory of their own. A tour from another vertex on, as a list; answers that are a list of ints and a word. toIntS: a list of ints laid anew. What the laws of chapter 6 that answer lists share. The specification's VertsOf. Rows of numbers, marked one behind the other: pure. -/
import Derived.Test.YtkkplppcgnikoaaGreatKTourP
import Derived.Laws.CopyOwn
import Derived.Test.YtkkplppcgnikoaaGreatKIVerts
import Derived.Test.YtkkplppcgnikoaaGreatKFB7
namespace Go.Proofs.YtkkplppcgnikoaaGreat
open Go.RowKit

/-- one of the pieces -/
structure PartI where
  a : Option Addr
  m : Nat
  c : Nat
  ls : List Int
/-- the pieces stand in block b -/
def PartsI (w : World) (b : Nat) (ps : List PartI) : Prop :=
  b < w.heap.size ∧ ∀ (j : Nat) (p : PartI), ps[j]? = some p → w.cell? ⟨b, j, none⟩ = some (.slice p.a p.m p.c) ∧ Is w w.heap.size p.a p.m p.ls
def qLen (ps : List PartI) : Nat := (ps.map fun p => p.m).sum
def qAll (ps : List PartI) : List Int := ps.flatMap fun p => p.ls
theorem qLen_snoc (ps : List PartI) (p : PartI) : qLen (ps ++ [p]) = qLen ps + p.m := by simp [qLen]
theorem qAll_snoc (ps : List PartI) (p : PartI) : qAll (ps ++ [p]) = qAll ps ++ p.ls := by simp [qAll]
theorem qLen_take (ps : List PartI) (k : Nat) : qLen (ps.take k) ≤ qLen ps := by
  have h := congrArg qLen (List.take_append_drop k ps)
  have e : ∀ a b : List PartI, qLen (a ++ b) = qLen a + qLen b := fun a b => by simp [qLen]
  rw [e] at h
  omega
theorem ic_append (a b : List Int) : ic (a ++ b) = ic a ++ ic b := by simp [ic]
theorem ic_one {ls : List Int} : ∀ u ∈ ic ls, u.oneCell' = true := by
  intro u hu
  simp [ic] at hu
  obtain ⟨x, _, rfl⟩ := hu
  rfl
theorem Is.news {w : World} {B b off n : Nat} {ls : List Int} (h : Is w B (some ⟨b, off, none⟩) n ls) : ∀ j u, (ic ls)[j]? = some u → w.cell? ((⟨b, off, none⟩ : Addr).add j) = some u := by
  intro j u hj
  have hl : j < ls.length := by have := (List.getElem?_eq_some_iff.1 hj).1; rw [ic_len] at this; exact this
  have hn := h.1
  rcases h.2 with h0 | ⟨b', off', hb, _, hc⟩
  · omega
  · simp at hb
    obtain ⟨rfl, rfl⟩ := hb
    obtain ⟨f, hf⟩ : ∃ f, ls[j]? = some f := ⟨ls[j], List.getElem?_eq_getElem hl⟩
    rw [show ((⟨b, off, none⟩ : Addr).add j) = ⟨b, off + j, none⟩ by by_cases h0 : j = 0 <;> simp [Addr.add, h0]]
    rw [hc j f hf, ← hj, ic_at hf]
theorem splice_take {X cs : List Value} {q : Nat} (h : q + cs.length ≤ X.length) : (splice X q cs).take (q + cs.length) = X.take q ++ cs := by
  unfold splice
  rw [← List.append_assoc, List.take_append_of_le_length (by simp; omega)]
  exact List.take_of_length_le (by simp; omega)
theorem info3s : (Tryz.prog.info? 3).map (fun i => i.size) = some 1 := by kernel_rfl

/-- one piece is moved -/
theorem copy_piece {w wr : World} {G x dl m pm pc : Nat} {pa : Option Addr} {X cs : List Value} (hg : wr.heap[G]? = some (.cells X.toArray 3 (0, 0))) (hl : cs.length = pm) (hd : pm ≤ dl)
    (hpos : 0 < cs.length → (some ⟨G, x, none⟩ : Option Addr) = some ⟨G, m, none⟩ ∧ ∃ ad, pa = some ad ∧ ∀ j v, cs[j]? = some v → wr.cell? (ad.add j) = some v)
    (hfit : m + cs.length ≤ X.length) (h1 : ∀ v ∈ cs, v.oneCell' = true) (hb : Below G w wr) :
    ∃ w2, (Builtin.copy_ #[44, 44] 3 #[.slice (some ⟨G, x, none⟩) dl dl, .slice pa pm pc]).run Tryz.prog wr = .ok (.int .i64 (pm : Int)) w2 ∧ w2.heap[G]? = some (.cells (splice X m cs).toArray 3 (0, 0)) ∧ Below G w w2 := by
  have hmin : Nat.min pm dl = pm := Nat.min_eq_left hd
  by_cases h0 : cs.length = 0
  · obtain rfl : cs = [] := List.eq_nil_of_length_eq_zero h0
    have hp0 : pm = 0 := by simpa using hl.symm
    subst hp0
    have hrun := run_copy_none (P := Tryz.prog) wr 44 44 3 3 (some ⟨G, x, none⟩) pa dl dl 0 pc Tryz.underlying44 info3s (by simp)
    exact ⟨wr, hrun, by simpa [splice] using hg, hb⟩
  · obtain ⟨e, ad, rfl, hsrc⟩ := hpos (by omega)
    simp at e
    subst e
    have hrun := run_copy_row (P := Tryz.prog) wr 44 44 3 3 G x dl dl ad pm pc X.toArray 3 cs Tryz.underlying44 info3s hg (by rw [hmin]; exact hl) hsrc (by simpa using hfit) h1
    rw [hl] at hrun
    exact ⟨_, hrun, by simpa [splice, hl] using setRow_heap wr G _ _ 3 _ hg, below_setRow hb (Nat.le_refl _) _⟩

set_option maxRecDepth 100000 in
set_option maxHeartbeats 2000000 in
theorem laid_any (ps : List PartI) (b k0 : Nat) (hk0 : ps.length = k0) (hsm : k0 ≤ 10) (w : World) (h : PartsI w b ps) (hlen : qLen ps ≤ 3000000) :
    Calls Tryz.prog 315 #[.slice (some ⟨b, 0, none⟩) k0 k0] w fun e w' => ∃ g m, e = .returned (.slice (some ⟨g, 0, none⟩) m m) ∧ w'.ownsRow w.heap.size 3 1 (.slice (some ⟨g, 0, none⟩) m m) m (ic (qAll ps)) ∧ Below w.heap.size w w' := by
  obtain ⟨i0, hi, hz0, hz1, hz2⟩ := info_parts info3i
  have HP := hideIt h
  have HL := hideIt hlen
  have HK := hideIt hk0
  have hbw := h.1
  clear h hlen hk0
  have HM : Hid (∀ (n : Nat), n ≤ 3000000 → ∀ u : World, (Instr.makeSlice 44 (.int .i64 (n : Int)) (.int .i64 (n : Int))).run Tryz.prog u =
      .ok (.slice (some ⟨u.heap.size, 0, none⟩) n n) (u.alloc (.cells (madeCells #[.int .i64 0] n) 3))) := fun n hn u => by
    have h := run_make (P := Tryz.prog) u 44 3 i0 _ Tryz.underlying44 hi hz0 .i64 .i64 (n : Int) (n : Int) (by omega) (by omega) (by rw [hz2]; omega) (by omega)
    rw [Int.toNat_natCast] at h
    simpa [hz1, Value.cells] using h
  go_enter Tryz.func315, Tryz.ntmps315
  go_wp2
  go_loopw [3, 12] (fun s i wr => ∃ (k q : Nat), k ≤ k0 ∧ i = .int .i64 (k : Int) ∧ s = .int .i64 (q : Int) ∧ Hid (q = qLen (ps.take k)) ∧ q ≤ 3000000 ∧ wr = w) (fun _ i _ => k0 - (intOf i).toNat)
  case atStart => exact ⟨0, 0, by omega, rfl, rfl, by show _ = _; simp [qLen], by omega, rfl⟩
  case round =>
    obtain ⟨k, q, hk, rfl, rfl, hq, hq1, hw⟩ := hrel
    have hw' := hw.symm
    subst hw'
    clear hw
    by_cases hlt : k < k0
    · obtain ⟨p, hp⟩ : ∃ p, ps[k]? = some p := ⟨ps[k]'(by have := HK.out; omega), List.getElem?_eq_getElem _⟩
      obtain ⟨c0, _⟩ := HP.out.2 k p hp
      have HQ : Hid (q + p.m = qLen (ps.take (k + 1))) := by show _ = _; rw [take_snocF ps k p hp, qLen_snoc, hq.out]
      have hqm : q + p.m ≤ 3000000 := by have := HQ.out; have := qLen_take ps (k + 1); have := HL.out; omega
      have b1 : (0 : Int) ≤ (k : Int) := by omega
      have b2 : (k : Int) < (k0 : Int) := by omega
      clear hq hp
      go_wp2
      exact ⟨⟨k + 1, q + p.m, by omega, by go_num, by go_num, HQ, hqm, by first | trivial | rfl⟩, by simp [intOf]; omega⟩
    · obtain rfl : k = k0 := by omega
      have HQ : Hid (q = qLen ps) := by show _ = _; rw [hq.out, List.take_of_length_le (by have := HK.out; omega)]
      clear hq
      have hmk := HM.out q hq1
      go_wp2
      clear hmk
      go_loopw [7, 26] (fun r i wr => ∃ (j m dl : Nat) (x : Nat) (X : List Value), j ≤ k ∧ i = .int .i64 (j : Int) ∧ r = .slice (some ⟨w.heap.size, x, none⟩) dl dl ∧ m + dl = q ∧ Hid (m = qLen (ps.take j)) ∧ (0 < dl → x = m) ∧ Hid (X.length = q) ∧ Hid (X.take m = ic (qAll (ps.take j))) ∧ Hid (wr.heap[w.heap.size]? = some (.cells X.toArray 3 (0, 0))) ∧ Below w.heap.size w wr) (fun _ i _ => k - (intOf i).toNat)
      case atStart =>
        refine ⟨0, 0, q, 0, (madeCells #[.int .i64 0] q).toList, by omega, rfl, rfl, by omega, by show _ = _; simp [qLen], fun _ => rfl, by show _ = _; simp [madeCells], by show _ = _; simp [qAll, ic], ?_, (Below.refl _ _).alloc (Nat.le_refl _) _⟩
        show _ = _
        rw [Array.toArray_toList]
        exact heap_alloc_new w _
      case round =>
        obtain ⟨j, m, dl, x, X, hj, rfl, rfl, hmd, hm, hx, hXl, hX, hg, hb⟩ := hrel
        by_cases hlt2 : j < k
        · obtain ⟨p, hp⟩ : ∃ p, ps[j]? = some p := ⟨ps[j]'(by have := HK.out; omega), List.getElem?_eq_getElem _⟩
          obtain ⟨c0, his⟩ := HP.out.2 j p hp
          have c1 : wr.cell? ⟨b, j, none⟩ = some (.slice p.a p.m p.c) := by rw [hb.cell hbw]; exact c0
          have HMm : Hid (m + p.m = qLen (ps.take (j + 1))) := by show _ = _; rw [take_snocF ps j p hp, qLen_snoc, hm.out]
          have hmp : m + p.m ≤ q := by have := HMm.out; have := qLen_take ps (j + 1); have := HQ.out; omega
          have HA : Hid (ic (qAll (ps.take (j + 1))) = ic (qAll (ps.take j)) ++ ic p.ls) := by show _ = _; rw [take_snocF ps j p hp, qAll_snoc, ic_append]
          have b1 : (0 : Int) ≤ (j : Int) := by omega
          have b2 : (j : Int) < (k : Int) := by omega
          have hisw := (his.below hb (Nat.le_refl _)).mono hb.size
          have hl2 : (ic p.ls).length = p.m := by rw [ic_len, his.1]
          obtain ⟨cs, hcs⟩ : ∃ cs, cs = ic p.ls := ⟨_, rfl⟩
          rw [← hcs] at hl2 HA
          have HN : Hid (0 < cs.length → (some ⟨w.heap.size, x, none⟩ : Option Addr) = some ⟨w.heap.size, m, none⟩ ∧ ∃ ad, p.a = some ad ∧ ∀ j v, cs[j]? = some v → wr.cell? (ad.add j) = some v) := fun h0 => by
            refine ⟨by rw [hx (by omega)], ?_⟩
            rcases hisw.2 with hz | ⟨b2, off2, hpa, _, _⟩
            · omega
            · exact ⟨_, hpa, by rw [hcs]; rw [hpa] at hisw; exact hisw.news⟩
          have H1 : Hid (∀ v ∈ cs, v.oneCell' = true) := by rw [hcs]; exact ic_one
          have HX2 : Hid ((splice X m cs).take (m + p.m) = ic (qAll (ps.take (j + 1)))) := by
            show _ = _
            rw [← hl2, splice_take (by have := hXl.out; omega), hX.out, HA.out]
          have HXl2 : Hid ((splice X m cs).length = q) := by show _ = _; rw [length_splice _ _ _ (by have := hXl.out; omega)]; exact hXl.out
          have HXq := hXl
          obtain ⟨pa, pm, pc, pls⟩ := p
          dsimp only at *
          clear hm hp c0 his hisw HA hX hXl hcs
          obtain ⟨w2, hcp, hg2, hB2⟩ := copy_piece (pc := pc) hg.out hl2 (show pm ≤ dl by omega) HN.out (by have := HXq.out; omega) H1.out hb
          have HG2 := hideIt hg2
          clear hg2 hg HN H1 HXq
          by_cases hfull : pm = dl
          · subst hfull
            have b3 : (0 : Int) ≤ (pm : Int) := by omega
            go_wp2
            exact ⟨⟨j + 1, m + pm, 0, x, splice X m cs, by omega, by go_num, rfl, by omega, HMm, fun h => by omega, HXl2, HX2, HG2, hB2⟩, by simp [intOf]; omega⟩
          · have b3 : (0 : Int) ≤ (pm : Int) := by omega
            have b4 : (pm : Int) ≤ (dl : Int) := by omega
            have hx2 : 0 < dl - pm → x + pm = m + pm := fun h => by rw [hx (by omega)]
            go_wp2
            exact ⟨⟨j + 1, m + pm, dl - pm, x + pm, splice X m cs, by omega, by go_num, rfl, by omega, HMm, hx2, HXl2, HX2, HG2, hB2⟩, by simp [intOf]; omega⟩
        · obtain rfl : j = k := by omega
          have HE : Hid (m = q) := by show _ = _; have h1 := hm.out; have h2 := HQ.out; rw [List.take_of_length_le (by have := HK.out; omega)] at h1; omega
          have HO : Hid (wr.ownsRow w.heap.size 3 1 (.slice (some ⟨w.heap.size, 0, none⟩) q q) q (ic (qAll ps))) := by
            show World.ownsRow _ _ _ _ _ _ _
            have h1 := hX.out
            have h3 := hXl.out
            rw [List.take_of_length_le (by have := HE.out; omega), List.take_of_length_le (by have := HK.out; omega)] at h1
            rw [← h1]
            exact ⟨by omega, .inr ⟨w.heap.size, q, X.toArray, rfl, Nat.le_refl _, hg.out, Nat.le_refl _, by unfold maxLen; omega, by simpa using h3, by rw [List.take_of_length_le (by simp; omega)]⟩⟩
          clear hm hX hXl hg
          go_wp2
          go_ret
          exact ⟨_, _, rfl, HO.out, hb⟩
end Go.Proofs.YtkkplppcgnikoaaGreat
namespace Go.Proofs.YtkkplppcgnikoaaGreat
open Go.RowKit

theorem Is.single (w : World) (f : Int) : Is (w.alloc (.cells #[.int .i64 f] 3)) (w.alloc (.cells #[.int .i64 f] 3)).heap.size (some ⟨w.heap.size, 0, none⟩) 1 [f] := by
  refine ⟨rfl, .inr ⟨w.heap.size, 0, rfl, by simp, fun j x hx => ?_⟩⟩
  rcases j with _ | j
  · simp at hx; subst hx; simp
  · simp at hx
/-- pieces that are laid into a block -/
theorem parts3 {u : World} {p1 p2 p3 : PartI} (h1 : Is u u.heap.size p1.a p1.m p1.ls) (h2 : Is u u.heap.size p2.a p2.m p2.ls) (h3 : Is u u.heap.size p3.a p3.m p3.ls) :
    PartsI (u.alloc (.cells #[.slice p1.a p1.m p1.c, .slice p2.a p2.m p2.c, .slice p3.a p3.m p3.c] 44)).drew u.heap.size [p1, p2, p3] := by
  have hb : Below u.heap.size u (u.alloc (.cells #[.slice p1.a p1.m p1.c, .slice p2.a p2.m p2.c, .slice p3.a p3.m p3.c] 44)).drew := ((Below.refl _ _).alloc (Nat.le_refl _) _).drew
  refine ⟨by simp, fun j q hq => ?_⟩
  rcases j with _ | _ | _ | j
  · simp at hq; subst hq
    exact ⟨by simp [go_sem], h1.up hb⟩
  · simp at hq; subst hq
    exact ⟨by simp [go_sem], h2.up hb⟩
  · simp at hq; subst hq
    exact ⟨by simp [go_sem], h3.up hb⟩
  · simp at hq
end Go.Proofs.YtkkplppcgnikoaaGreat
namespace Go.Proofs.YtkkplppcgnikoaaGreat
open Go.RowKit

end Go.Proofs.YtkkplppcgnikoaaGreat
namespace Go.Proofs.YtkkplppcgnikoaaGreat
open Go.RowKit

end Go.Proofs.YtkkplppcgnikoaaGreat
namespace Go.Proofs.YtkkplppcgnikoaaGreat
open Go.RowKit

set_option maxRecDepth 100000 in
set_option maxHeartbeats 2000000 in
theorem sVertsOf_any (t : List Int) (n : Nat) (a : Option Addr) (c : Nat) (hn : n ≤ 3000000) (w : World) (h : Is w w.heap.size a n t) :
    Calls Tryz.prog 83 #[.slice a n c] w fun e w' => ∃ a' m c', e = .returned (.slice a' m c') ∧ w'.ownsRow w.heap.size 3 1 (.slice a' m c') m (ic (vsL t)) ∧ Below w.heap.size w w' := by
  obtain ⟨i0, hi, hz0, hz1, hz2⟩ := info_parts info3i
  have HIn := hideIt (fun y x (hx : Below w.heap.size w x) => l05In_any t y n a c hn x (h.up hx))
  have S0 := ISt.start w
  clear h
  go_enter Tryz.func83, Tryz.ntmps83
  go_wp2
  go_loopw [3, 4] (fun r i wr => ∃ (k m c1 : Nat) (a1 : Option Addr), k ≤ 12 ∧ m ≤ k ∧ i = .int .i64 (k : Int) ∧ r = .slice a1 m c1 ∧ ISt w a1 m c1 (vsK t k) wr) (fun _ i _ => 12 - (intOf i).toNat)
  case atStart => exact ⟨0, 0, 0, _, by omega, by omega, rfl, rfl, by rw [vsK_zero]; exact S0⟩
  case round =>
    obtain ⟨k, m, c1, a1, hk, hmk, rfl, rfl, hst⟩ := hrel
    clear S0
    by_cases hlt : k < 12
    · have b1 : (0 : Int) ≤ (k : Int) := by omega
      have b2 : (k : Int) < 12 := by omega
      have HN := hideIt (HIn.out (k : Int) wr hst.bel)
      have z1 := hst.size
      have HST := hideIt hst
      by_cases hx : (k : Int) ∈ t
      · rw [decide_eq_true hx] at HN
        have HV := hideIt (vsK_yes hx)
        clear hx hst
        go_wp2_with (first | (go_at_call 171; refine HN.out.mono ?_; rintro e w3 ⟨rfl, hw⟩; have hw' := hw.symm; subst hw'; clear hw) | (at_builtin; refine wpList_append_own _ rfl _ _ 44 rfl w.heap.size 3 i0 _ 1 8 Tryz.underlying44 hi hz0 hz1 hz2 rfl (by decide) _ _ _ rfl (HST.out.own.alloc _) ⟨wr.heap.size, 0, none⟩ 1 1 [.int .i64 (k : Int)] rfl rfl (newsI wr (k : Int)) (by intro u hu; simp at hu; subst hu; rfl) (by unfold maxLen; omega) (by omega) (by simp; omega) ?_))
        intro v5 w5 hown5 hg5 _
        obtain ⟨a5, c5, rfl, S5⟩ := HST.out.app hown5 hg5
        clear hown5 hg5 HST
        go_wp2
        exact ⟨⟨k + 1, m + 1, c5, a5, by omega, by omega, by go_num, rfl, by rw [HV.out]; exact S5⟩, by simp [intOf]; omega⟩
      · rw [decide_eq_false hx] at HN
        have HV := hideIt (vsK_no hx)
        clear hx hst
        go_wp2_with (go_at_call 171; refine HN.out.mono ?_; rintro e w3 ⟨rfl, hw⟩; have hw' := hw.symm; subst hw'; clear hw)
        exact ⟨⟨k + 1, m, c1, a1, by omega, by omega, by go_num, rfl, by rw [HV.out]; exact HST.out⟩, by simp [intOf]; omega⟩
    · obtain rfl : k = 12 := by omega
      have HST := hideIt hst
      clear hst
      go_wp2
      go_ret
      exact ⟨a1, m, c1, rfl, HST.out.own, HST.out.bel⟩
end Go.Proofs.YtkkplppcgnikoaaGreat
namespace Go.Proofs.YtkkplppcgnikoaaGreat
open Go.RowKit

end Go.Proofs.YtkkplppcgnikoaaGreat
