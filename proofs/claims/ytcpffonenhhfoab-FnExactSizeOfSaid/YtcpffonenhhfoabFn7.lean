/- A forest linked and cut again: pure. -/
import Derived.Test.YtcpffonenhhfoabEd7
namespace Go.Proofs.Ytcpffonenhhfoab
open Go.RowKit

theorem FP.q {N : Int} {ts : List (List Int)} (h : FP N ts) : FQ N ts := ((FP_iff N ts).1 h).2.2.1
theorem srt_perm {N : Nat} {l : List (List Int)} (h : FQ (N : Int) l) : (srtK l N).Perm l := srtK_perm fun t ht => mn_range (h.1 t ht).1 (h.1 t ht).2
/-- two trees linked by an edge -/
structure LkIs (N : Nat) (ts : List (List Int)) (i j : Nat) (a b : List Int) (u v : Int) (J : List Int) (g : List (List Int)) : Prop where
  jo : JoIs a b u v J
  eq : g = srtK (woK ts [i, j] ts.length ++ [J]) N
  ok : FP (N : Int) g
  len : g.length + 1 = ts.length
  perm : g.Perm (woK ts [i, j] ts.length ++ [J])
  old : ts.Perm (a :: b :: woK ts [i, j] ts.length)
  there : ∃ k : Nat, g[k]? = some J
theorem lk_is {N : Nat} {ts : List (List Int)} (h : FP (N : Int) ts) {i j : Nat} {a b : List Int} {u v : Int} (hi : ts[i]? = some a) (hj : ts[j]? = some b) (hij : i ≠ j) (hu : u ∈ a) (hv : v ∈ b) :
    ∃ J, joO a u b v = some J ∧ LkIs N ts i j a b u v J (srtK (woK ts [i, j] ts.length ++ [J]) N) := by
  have hq := h.q
  have hp := wo_two_all hi hj hij
  have hq2 := hq.perm hp.symm
  have ha := hq.1 a (List.mem_of_getElem? hi)
  have hb := hq.1 b (List.mem_of_getElem? hj)
  have hap : Apart a b := (List.pairwise_cons.1 hq2.2.1).1 b (by simp)
  obtain ⟨J, e, hJ⟩ := jo_two ha.1 hb.1 hap hu hv
  have hq3 := hq2.join hJ.ok hJ.mem
  have hps := srt_perm hq3
  refine ⟨J, e, hJ, rfl, FP_srt (by have := h.1; omega) (by have := h.2.1; omega) hq3, ?_, hps, hp.symm, ?_⟩
  · have h1 := hps.length_eq
    have h2 := hp.length_eq
    simp only [List.length_cons, List.length_append, List.length_nil] at h1 h2
    omega
  · exact List.mem_iff_getElem?.1 (hps.mem_iff.2 (by simp))
/-- and cut again there -/
theorem lk_cut {N : Nat} {ts : List (List Int)} {i j : Nat} {a b : List Int} {u v : Int} {J : List Int} {g : List (List Int)} (h : FP (N : Int) ts) (L : LkIs N ts i j a b u v J g) {k : Nat} (hk : g[k]? = some J) :
    ∃ r, spO J u v = (a, r, true) ∧ FP (N : Int) (srtK (woK g [k] g.length ++ [a, r]) N) ∧ ∀ x m, Prt (srtK (woK g [k] g.length ++ [a, r]) N) x m ↔ Prt ts x m := by
  obtain ⟨r, HR, hs⟩ := L.jo.back
  have hq := h.q
  have hqg := L.ok.q
  have hp1 := wo_one_all hk
  have hW : (woK g [k] g.length).Perm (woK ts [i, j] ts.length) := by
    have h2 : (J :: woK g [k] g.length).Perm (J :: woK ts [i, j] ts.length) := (hp1.trans L.perm).trans (List.perm_append_comm (l₂ := [J]))
    exact h2.cons_inv
  have hqo := hq.perm L.old
  have hap : Apart a b := (List.pairwise_cons.1 hqo.2.1).1 b (by simp)
  have hlike : ∀ x, x ∈ r ↔ x ∈ b := HR.mem
  have hq2 : FQ (N : Int) (woK g [k] g.length ++ [a, r]) := by
    obtain ⟨h1, h2, h3⟩ := hqo
    have hq3 : FQ (N : Int) (a :: r :: woK ts [i, j] ts.length) := by
      rw [List.pairwise_cons, List.pairwise_cons] at h2
      refine ⟨fun t ht => ?_, ?_, ?_⟩
      · simp only [List.mem_cons] at ht
        rcases ht with rfl | rfl | ht
        · exact h1 t (by simp)
        · exact ⟨HR.ok, fun x hx => (h1 b (by simp)).2 x ((hlike x).1 hx)⟩
        · exact h1 t (by simp [ht])
      · rw [List.pairwise_cons, List.pairwise_cons]
        refine ⟨fun t ht x hx hxt => ?_, fun t ht x hx => h2.2.1 t ht x ((hlike x).1 hx), h2.2.2⟩
        rcases List.mem_cons.1 ht with rfl | ht
        · exact hap x hx ((hlike x).1 hxt)
        · exact h2.1 t (by simp [ht]) x hx hxt
      · rw [← h3]
        simp only [cnt, List.map_cons, List.sum_cons]
        rw [vs_alike hlike]
    exact hq3.perm ((hW.symm.append_left [a, r]).trans List.perm_append_comm)
  refine ⟨r, hs, FP_srt (by have := h.1; omega) (by have := h.2.1; omega) hq2, fun x m => ?_⟩
  have hps := srt_perm hq2
  constructor
  · refine Prt.like fun t ht => ?_
    have ht2 := hps.mem_iff.1 ht
    simp only [List.mem_append, List.mem_cons, List.not_mem_nil, or_false] at ht2
    rcases ht2 with ht2 | rfl | rfl
    · exact ⟨t, L.old.mem_iff.2 (by simp [hW.mem_iff.1 ht2]), fun _ => Iff.rfl⟩
    · exact ⟨t, L.old.mem_iff.2 (by simp), fun _ => Iff.rfl⟩
    · exact ⟨b, L.old.mem_iff.2 (by simp), hlike⟩
  · refine Prt.like fun t ht => ?_
    have ht2 := L.old.mem_iff.1 ht
    simp only [List.mem_cons] at ht2
    rcases ht2 with rfl | rfl | ht2
    · exact ⟨t, hps.mem_iff.2 (by simp), fun _ => Iff.rfl⟩
    · exact ⟨r, hps.mem_iff.2 (by simp), fun x => (hlike x).symm⟩
    · exact ⟨t, hps.mem_iff.2 (by simp [hW.mem_iff.2 ht2]), fun _ => Iff.rfl⟩
end Go.Proofs.Ytcpffonenhhfoab
