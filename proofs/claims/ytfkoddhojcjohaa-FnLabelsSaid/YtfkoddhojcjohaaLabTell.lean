/- What labels tell. (sameInts; the rest is no walk.) -/
import Derived.Test.YtfkoddhojcjohaaDrawR
import Derived.Test.YtfkoddhojcjohaaTogeth
import Derived.Test.YtfkoddhojcjohaaIAround
namespace Go.Proofs.Ytfkoddhojcjohaa
open Go.RowKit

theorem conn_eq {es : List EdgeV} {n : Nat} (hE : EsIn es n) {x y : Int} (hx : 0 ≤ x ∧ x < n) (hy : 0 ≤ y ∧ y < n) (h : Conn es x y) : atI (labs es n n) x = atI (labs es n n) y := by
  have sx := sound_labs hE n x hx.1 hx.2
  have sy := sound_labs hE n y hy.1 hy.2
  have h1 := labs_full hE (u := atI (labs es n n) y) (v := x) sy.1.1 sy.1.2 (sy.2.symm.trans h.symm)
  have h2 := labs_full hE (u := atI (labs es n n) x) (v := y) sx.1.1 sx.1.2 (sx.2.symm.trans h)
  omega
theorem lab_edge {es : List EdgeV} {n : Nat} (hE : EsIn es n) {e : EdgeV} (he : e ∈ es) : atI (labs es n n) e.1 = atI (labs es n n) e.2 := by
  have hi := hE e he
  exact conn_eq hE ⟨by omega, by omega⟩ ⟨by omega, by omega⟩ (Conn.edge he)
theorem lab_le {es : List EdgeV} {n : Nat} (hE : EsIn es n) {v : Int} (hv : 0 ≤ v ∧ v < n) : (0 ≤ atI (labs es n n) v ∧ atI (labs es n n) v < n) ∧ atI (labs es n n) v ≤ v := by
  refine ⟨(sound_labs hE n v hv.1 hv.2).1, ?_⟩
  have := labs_le hE 0 n v
  rw [Nat.zero_add, labs, lab0_at hv.1 hv.2] at this
  exact this
theorem lab_idem {es : List EdgeV} {n : Nat} (hE : EsIn es n) {v : Int} (hv : 0 ≤ v ∧ v < n) : atI (labs es n n) (atI (labs es n n) v) = atI (labs es n n) v := by
  have s := sound_labs hE n v hv.1 hv.2
  exact (conn_eq hE hv s.1 s.2).symm
theorem lab_near {N : Int} {es : List EdgeV} (hg : gB N es = true) {v x : Int} (hx : x ∈ arE N es v) : (0 ≤ x ∧ x < N.toNat) ∧ (hasB es (v, x) = true ∨ hasB es (x, v) = true) := by
  unfold arE at hx
  rw [if_pos hg] at hx
  unfold arS at hx
  rw [List.mem_filter, List.mem_map] at hx
  obtain ⟨⟨u, hu, rfl⟩, h2⟩ := hx
  rw [List.mem_range] at hu
  rw [Bool.or_eq_true] at h2
  exact ⟨⟨by omega, by omega⟩, h2.symm⟩
theorem lab_nearE {N : Int} {es : List EdgeV} (hg : gB N es = true) {v x : Int} (hx : x ∈ arE N es v) : atI (labs es N.toNat N.toNat) x = atI (labs es N.toNat N.toNat) v := by
  have hE := esIn_of hg
  rcases (lab_near hg hx).2 with h | h
  · exact (lab_edge hE (e := (v, x)) (of_decide_eq_true h)).symm
  · exact lab_edge hE (e := (x, v)) (of_decide_eq_true h)
theorem lab_alone {N : Int} {es : List EdgeV} (hg : gB N es = true) {v : Int} (hv : 0 ≤ v ∧ v < N.toNat) (h0 : arE N es v = []) : atI (labs es N.toNat N.toNat) v = v := by
  have hE := esIn_of hg
  have s := (sound_labs hE N.toNat v hv.1 hv.2).2
  have hno : ∀ e ∈ es, e.1 ≠ v ∧ e.2 ≠ v := by
    intro e he
    have hi := hE e he
    refine ⟨fun h1 => ?_, fun h1 => ?_⟩
    · have : e.2 ∈ arE N es v := by
        unfold arE arS
        rw [if_pos hg, List.mem_filter, List.mem_map]
        refine ⟨⟨e.2.toNat, List.mem_range.2 (by omega), by omega⟩, ?_⟩
        rw [Bool.or_eq_true]
        exact .inr (decide_eq_true (by rw [← h1]; exact he))
      rw [h0] at this
      simp at this
    · have : e.1 ∈ arE N es v := by
        unfold arE arS
        rw [if_pos hg, List.mem_filter, List.mem_map]
        refine ⟨⟨e.1.toNat, List.mem_range.2 (by omega), by omega⟩, ?_⟩
        rw [Bool.or_eq_true]
        exact .inl (decide_eq_true (by rw [← h1]; exact he))
      rw [h0] at this
      simp at this
  exact (s (fun x => x = v) (fun e he => ⟨fun h => absurd h (hno e he).1, fun h => absurd h (hno e he).2⟩) rfl)

set_option maxHeartbeats 1000000 in
theorem sameInts_same (ls : List Int) (n : Nat) (a a' : Option Addr) (c c' : Nat) (hn : n ≤ 1048576) (w : World) (h : Is w w.heap.size a n ls) (h' : Is w w.heap.size a' n ls) :
    Calls Try.prog 19 #[.slice a n c, .slice a' n c'] w fun e w' => e = .returned (.bool true) ∧ Below w.heap.size w w' := by
  obtain ⟨hlen, hrow⟩ := h
  obtain ⟨_, hrow'⟩ := h'
  have HR := hideIt hrow
  have HR' := hideIt hrow'
  clear hrow hrow'
  have dn : ((n : Int) != (n : Int)) = false := by simp
  go_enter Try.func19, Try.ntmps19
  go_wp2
  go_loopw [5] (fun i wr => ∃ (k : Nat), k ≤ n ∧ i = .int .i64 (k : Int) ∧ Below w.heap.size w wr) (fun i _ => n - (intOf i).toNat)
  case atStart => exact ⟨0, by omega, rfl, Below.refl _ _⟩
  case round =>
    obtain ⟨k, hk, rfl, hb⟩ := hrel
    by_cases hlt : k < n
    · rcases HR.out with hz | ⟨b, off, rfl, hbl, hc⟩
      · omega
      · rcases HR'.out with hz | ⟨b', off', rfl, hbl', hc'⟩
        · omega
        · obtain ⟨f, hf⟩ : ∃ f, ls[k]? = some f := ⟨ls[k]'(by omega), List.getElem?_eq_getElem (by omega)⟩
          have e0 : wr.cell? ⟨b, off + k, none⟩ = some (.int .i64 f) := by rw [hb.cell hbl]; exact hc k f hf
          have e1 : wr.cell? ⟨b', off' + k, none⟩ = some (.int .i64 f) := by rw [hb.cell hbl']; exact hc' k f hf
          have b1 : (0 : Int) ≤ (k : Int) := by omega
          have b2 : (k : Int) < (n : Int) := by omega
          have d1 : (f != f) = false := by simp
          clear hc hc' hf
          go_wp2
          go_quiet (fail)
          go_wp2
          exact ⟨⟨k + 1, by omega, by go_num, below_drewN hb _⟩, by simp [intOf]; omega⟩
    · go_wp2
      go_ret
      exact ⟨rfl, hb⟩

/-- what stands since u: the graph's box, its edges, its labels -/
structure LabSt (X : Nat) (nn : Nat) (es : List EdgeV) (a' : Option Addr) (m c' : Nat) (bl ol : Nat) (u : World) : Prop where
  box0 : u.cell? ⟨X, 0, none⟩ = some (.int .i64 (nn : Int))
  box1 : u.cell? ⟨X, 1, none⟩ = some (.slice a' m c')
  row : Es u u.heap.size a' m es
  lab : ∀ x : Int, 0 ≤ x → x < nn → u.cell? ⟨bl, ol + x.toNat, none⟩ = some (.int .i64 (atI (labs es nn nn) x))
  lt : X < u.heap.size ∧ bl < u.heap.size
theorem LabSt.up {X nn : Nat} {es : List EdgeV} {a' : Option Addr} {m c' bl ol : Nat} {u v : World} (h : LabSt X nn es a' m c' bl ol u) (hb : Below u.heap.size u v) : LabSt X nn es a' m c' bl ol v :=
  ⟨by rw [hb.cell h.lt.1]; exact h.box0, by rw [hb.cell h.lt.1]; exact h.box1, h.row.up hb, fun x h0 h1 => by rw [hb.cell h.lt.2]; exact h.lab x h0 h1, by have := h.lt; have := hb.size; omega⟩
end Go.Proofs.Ytfkoddhojcjohaa
