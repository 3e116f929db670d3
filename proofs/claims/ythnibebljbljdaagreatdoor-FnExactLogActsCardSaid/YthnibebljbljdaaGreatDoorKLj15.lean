/- A list of acts that is answered: none, or its own two; it is marked and held. -/
import Derived.Test.YthnibebljbljdaaGreatDoorKLi15
import Derived.Test.YthnibebljbljdaaGreatDoorKLh15
namespace Go.Proofs.YthnibebljbljdaaGreatDoor
open Go.RowKit Vt

/-- the answer: acts that are ours, in blocks from lo on, or none -/
structure OA (u : World) (lo hi : Nat) (a : Option Addr) (m : Nat) (xs : List F.ActV) : Prop where
  len : xs.length = m
  own : m = 0 ∨ ∃ g, a = some ⟨g, 0, none⟩ ∧ g < hi ∧ u.ownsRow lo 83 4 (.slice (some ⟨g, 0, none⟩) m m) m (F.acells xs)
theorem OA.as {u : World} {lo hi : Nat} {a : Option Addr} {m : Nat} {xs : List F.ActV} (h : OA u lo hi a m xs) : F.As u u.heap.size a m xs := by
  rcases h.own with h0 | ⟨g, rfl, hg, ho⟩
  · exact ⟨h.len, .inl h0⟩
  · exact F.As_of_own ho
theorem OA.trn {u v : World} {lo hi : Nat} {a : Option Addr} {m : Nat} {xs : List F.ActV} {P : Nat → Prop} (h : OA u lo hi a m xs) (ht : Trn P u v) (hP : ∀ g, lo ≤ g → g < hi → ¬ P g) : OA v lo hi a m xs := by
  refine ⟨h.len, h.own.imp id ?_⟩
  rintro ⟨g, rfl, hh, ho⟩
  exact ⟨g, rfl, hh, own_trnL ho ht (fun g' hg => by
    simp [Value.ownBlock] at hg
    subst hg
    exact hP g (ho.lt g rfl).1 hh)⟩
theorem OA.up {u v : World} {lo hi : Nat} {a : Option Addr} {m : Nat} {xs : List F.ActV} (h : OA u lo hi a m xs) (hb : Below u.heap.size u v) : OA v lo hi a m xs := h.trn (trn_belowL hb) (fun _ _ _ h => h)
theorem OA.low {u : World} {lo lo' hi : Nat} {a : Option Addr} {m : Nat} {xs : List F.ActV} (h : OA u lo hi a m xs) (hl : lo' ≤ lo) : OA u lo' hi a m xs :=
  ⟨h.len, h.own.imp id fun ⟨g, e, hh, ho⟩ => ⟨g, e, hh, own_mono ho hl⟩⟩
/-- the two acts that add a frame to the log and keep it -/
def lgX (f : ByteArray) : List F.ActV := [⟨1, logS, f, ⟨#[]⟩⟩, ⟨2, logS, ⟨#[]⟩, ⟨#[]⟩⟩]
theorem lgX_cells (f : ByteArray) : F.acells (lgX f) = lgC f := rfl
set_option maxRecDepth 100000 in
theorem markActS_zero15 (a : Option Addr) (c : Nat) (k : Int) (w : World) : Calls Tryz.prog 21 #[.slice a 0 c, .int .i64 k] w fun e w' => e = .returned (.int .i64 k) ∧ w' = w := by
  go_enter Tryz.func21, Tryz.ntmps21
  go_wp2
  go_loopw [1, 5] (fun p q wr => p = .int .i64 k ∧ q = .int .i64 0 ∧ wr = w) (fun _ _ _ => 0)
  case atStart => exact ⟨rfl, rfl, rfl⟩
  case round =>
    obtain ⟨rfl, rfl, rfl⟩ := hrel
    go_wp2
    go_ret
    exact ⟨rfl, rfl⟩
theorem OA.mark {u : World} {lo hi : Nat} {a : Option Addr} {m : Nat} {xs : List F.ActV} (h : OA u lo hi a m xs) (hm : m ≤ 1048576) :
    Calls Tryz.prog 21 #[.slice a m m, .int .i64 1] u fun e v => e = .returned (.int .i64 ((1 : Int) + (m : Int) * 4)) ∧ OA v lo hi a m (F.amarks 1 m) ∧ Trn (fun k => lo ≤ k ∧ k < hi) u v := by
  rcases h.own with h0 | ⟨g, rfl, hg, ho⟩
  · subst h0
    refine (markActS_zero15 a 0 1 u).mono ?_
    rintro e v ⟨rfl, rfl⟩
    exact ⟨by simp, ⟨by simp [F.amarks], .inl rfl⟩, ⟨rfl, rfl, rfl, Nat.le_refl _, fun _ _ _ => rfl⟩⟩
  · refine (F.markActS_marks lo g m m 1 _ hm (by omega) (by omega) u ho).mono ?_
    rintro e v ⟨rfl, ho', hgr⟩
    exact ⟨by simp, ⟨F.amarks_length _ _, .inr ⟨g, rfl, hg, ho'⟩⟩, trn_impL (Trn.of_grown hgr) (fun k hk => by
      simp at hk
      subst hk
      exact ⟨(ho.lt g rfl).1, hg⟩)⟩
theorem OA.held {u : World} {lo hi : Nat} {a : Option Addr} {m : Nat} (h : OA u lo hi a m (F.amarks 1 m)) (hm : m ≤ 1048576) :
    Calls Tryz.prog 22 #[.slice a m m, .int .i64 1] u fun e v => e = .returned (.int .i64 ((1 : Int) + (m : Int) * 4)) ∧ Below u.heap.size u v := by
  have := F.heldActS_any m 1 a m hm (by omega) (by omega) u h.as
  simpa using this
theorem OA.eq {u : World} {lo lo' hi hi' : Nat} {a a' : Option Addr} {m : Nat} {xs : List F.ActV} (h : OA u lo hi a m xs) (h' : OA u lo' hi' a' m xs) (hm : m ≤ 1048576) :
    Calls Tryz.prog 16 #[.slice a m m, .slice a' m m] u fun e v => e = .returned (.bool true) ∧ Below u.heap.size u v := F.eqActS_same xs m a a' m m hm u h.as h'.as
end Go.Proofs.YthnibebljbljdaaGreatDoor
