/- Whether an edge is in a list: the law's own look. -/
import Derived.Test.YtcppbgkocipnlaaE6
namespace Go.Proofs.Ytcppbgkocipnlaa
open Go.RowKit
set_option maxHeartbeats 1000000 in
theorem has_any (es : List EdgeV) (e : EdgeV) (n : Nat) (a : Option Addr) (c : Nat) (hn : n ≤ 1048576) (w : World) (h : Es w w.heap.size a n es) :
    Calls Try.prog 19 #[.slice a n c, .agg #[.int .i64 e.1, .int .i64 e.2]] w fun x w' => x = .returned (.bool (hasB es e)) ∧ Below w.heap.size w w' := by
  obtain ⟨hlen, hrow⟩ := h
  have HR := hideIt hrow
  clear hrow
  go_enter Try.func19, Try.ntmps19
  go_wp2
  go_loopw [5] (fun i wr => ∃ k : Nat, k ≤ n ∧ i = .int .i64 (k : Int) ∧ Hid (∀ j, j < k → es[j]? ≠ some e) ∧ Below w.heap.size w wr ∧ wr.cell? ⟨w.heap.size, 0, none⟩ = some (.int .i64 e.1) ∧ wr.cell? ⟨w.heap.size, 1, none⟩ = some (.int .i64 e.2)) (fun i _ => n - (intOf i).toNat)
  case atStart => exact ⟨0, by omega, rfl, fun j hj => by omega, (Below.refl _ _).alloc (Nat.le_refl _) _, by simp, by simp⟩
  case round =>
    obtain ⟨k, hk, rfl, hck, hb, x0, x1⟩ := hrel
    by_cases hlt : k < n
    · rcases HR.out with hz | ⟨b, off, rfl, hbl, hc⟩
      · omega
      · obtain ⟨f, hf⟩ : ∃ f, es[k]? = some f := ⟨es[k]'(by omega), List.getElem?_eq_getElem (by omega)⟩
        obtain ⟨c0, c1⟩ := hc k f hf
        have e0 : wr.cell? ⟨b, off + k * 2, none⟩ = some (.int .i64 f.1) := by rw [hb.cell hbl]; exact c0
        have e1 : wr.cell? ⟨b, off + k * 2 + 1, none⟩ = some (.int .i64 f.2) := by rw [hb.cell hbl]; exact c1
        have b1 : (0 : Int) ≤ (k : Int) := by omega
        have b2 : (k : Int) < (n : Int) := by omega
        by_cases hfe : f = e
        · subst hfe
          have HY := hideIt (hasB_yes hf)
          clear hf hc c0 c1 hck
          go_wp2
          go_quiet (fail)
          go_wp2
          go_ret
          exact ⟨by rw [HY.out]; rfl, below_drewN hb _⟩
        · have HN : Hid (∀ j, j < k + 1 → es[j]? ≠ some e) := fun j hj => by
            by_cases hjk : j = k
            · subst hjk; rw [hf]; exact fun hh => hfe (Option.some.inj hh)
            · exact hck.out j (by omega)
          clear hf hc c0 c1 hck
          by_cases h1 : f.1 = e.1
          · have h2 : ¬ f.2 = e.2 := fun h2 => hfe (Prod.ext h1 h2)
            rw [h1] at e0
            have d2 : (f.2 == e.2) = false := by simpa using h2
            clear hfe
            go_wp2
            go_quiet (fail)
            go_wp2
            exact ⟨⟨k + 1, by omega, by go_num, HN, below_drewN hb _, x0, x1⟩, by simp [intOf]; omega⟩
          · have d1 : (f.1 == e.1) = false := by simpa using h1
            clear hfe
            go_wp2
            go_quiet (fail)
            go_wp2
            exact ⟨⟨k + 1, by omega, by go_num, HN, below_drewN hb _, x0, x1⟩, by simp [intOf]; omega⟩
    · have HN := hideIt (hasB_no (es := es) (e := e) (fun j hj => hck.out j (by omega)))
      clear hck
      go_wp2
      go_ret
      exact ⟨by rw [HN.out]; rfl, hb⟩

end Go.Proofs.Ytcppbgkocipnlaa
