/- What FnKeeps looks at: lefts, sameDisk, begins; what is left of files: pure. -/
import Derived.Test.YtegknhnmfaafmaaLose
import Derived.Test.YtegknhnmfaafmaaKeptR
import Derived.Test.YtegknhnmfaafmaaOrder
import Derived.Test.YtegknhnmfaafmaaIsR
import Derived.Test.YtegknhnmfaafmaaDrawSum
namespace Go.Proofs.Ytegknhnmfaafmaa
open Go.RowKit

theorem cut_ok {f : FileV} (h : FileOk f) (l : Option Int) : 0 ≤ cutI f l ∧ f.kept ≤ cutI f l ∧ cutI f l ≤ f.text.size := by
  obtain ⟨_, _, h1, h2⟩ := h
  unfold cutI
  omega
theorem ext_size (t : ByteArray) (k : Nat) (h : k ≤ t.size) : (t.extract 0 k).size = k := by rw [ByteArray.size_extract]; omega
theorem cutF_ok {f : FileV} (h : FileOk f) (l : Option Int) : FileOk (cutF f l) ∧ ((cutF f l).text.size : Int) = (cutF f l).kept := by
  obtain ⟨h1, h2, h3⟩ := cut_ok h l
  have hs : (f.text.extract 0 (cutI f l).toNat).size = (cutI f l).toNat := ext_size _ _ (by omega)
  have ht := h.2.1
  refine ⟨⟨h.1, ?_, h1, ?_⟩, ?_⟩
  · show (f.text.extract 0 (cutI f l).toNat).size ≤ 20000
    omega
  · show cutI f l ≤ ((f.text.extract 0 (cutI f l).toNat).size : Int)
    omega
  · show ((f.text.extract 0 (cutI f l).toNat).size : Int) = cutI f l
    omega
theorem lose_at (fs : List FileV) (ls : List Int) (k : Nat) : (lose fs ls)[k]? = (fs[k]?).map fun f => cutF f ls[k]? := by
  unfold lose
  rw [List.getElem?_mapIdx]
theorem lose_names (fs : List FileV) (ls : List Int) : (lose fs ls).map nmOf = fs.map nmOf := by
  apply List.ext_getElem?
  intro k
  rw [List.getElem?_map, List.getElem?_map, lose_at]
  cases fs[k]? <;> rfl
theorem lose_disk {fs : List FileV} (h : DiskR fs) (ls : List Int) : DiskR (lose fs ls) := by
  rw [disk_iff] at h ⊢
  refine ⟨by rw [lose_len]; exact h.1, fun f hf => ?_, ?_⟩
  · obtain ⟨k, hk⟩ := List.getElem?_of_mem hf
    rw [lose_at] at hk
    cases hg : fs[k]? with
    | none => rw [hg] at hk; cases hk
    | some g =>
      rw [hg] at hk
      cases hk
      exact (cutF_ok (h.2.1 g (List.mem_of_getElem? hg)) _).1
  · have h3 : (fs.map nmOf).Pairwise (fun x y => x < y) := List.pairwise_map.2 h.2.2
    rw [← lose_names fs ls] at h3
    exact List.pairwise_map.1 h3
theorem lose_kept {fs : List FileV} (h : DiskR fs) (ls : List Int) : AllR (lose fs ls) := by
  refine ⟨lose_disk h ls, fun f hf => ?_⟩
  obtain ⟨k, hk⟩ := List.getElem?_of_mem hf
  rw [lose_at] at hk
  cases hg : fs[k]? with
  | none => rw [hg] at hk; cases hk
  | some g =>
    rw [hg] at hk
    cases hk
    have := (cutF_ok (disk_at h hg) ls[k]?).2
    show ¬ (cutF g ls[k]?).kept < ((cutF g ls[k]?).text.size : Int)
    omega
theorem lose_again {fs : List FileV} (h : AllR fs) : lose fs [] = fs := by
  apply List.ext_getElem?
  intro k
  rw [lose_at]
  cases hg : fs[k]? with
  | none => rfl
  | some g =>
    have hok := disk_at h.1 hg
    have h1 := h.2 g (List.mem_of_getElem? hg)
    obtain ⟨_, _, h2, h3⟩ := hok
    have e : cutI g none = g.kept := by unfold cutI; simp only [Option.getD]; omega
    show some (cutF g none) = some g
    unfold cutF
    rw [e]
    have : g.kept.toNat = g.text.size := by omega
    rw [this]
    simp
theorem begins_yes (s : ByteArray) (k : Nat) (hk : k ≤ s.size) (w : World) :
    Calls Try.prog 13 #[.string (s.extract 0 k), .string s] w fun e w' => e = .returned (.bool true) ∧ w' = w := by
  have hz := ext_size s k hk
  have d1 : decide (((s.extract 0 k).size : Int) ≤ (s.size : Int)) = true := by simp; omega
  have b1 : (0 : Int) ≤ ((s.extract 0 k).size : Int) := by omega
  have b2 : ((s.extract 0 k).size : Int) ≤ (s.size : Int) := by omega
  have d2 : ((s.extract 0 (s.extract 0 k).size).toList == (s.extract 0 k).toList) = true := by rw [hz]; simp
  generalize hT : s.extract 0 k = t at *
  clear hT hz
  go_enter Try.func13, Try.ntmps13
  go_wp2
  go_ret
  exact ⟨by simp, rfl⟩

set_option maxRecDepth 100000 in
set_option maxHeartbeats 2000000 in
theorem sameDisk_same (fs : List FileV) (n : Nat) (a a' : Option Addr) (c c' : Nat) (hn : n ≤ 1048576) (w : World) (h : Fs w w.heap.size a n fs) (h' : Fs w w.heap.size a' n fs) :
    Calls Try.prog 10 #[.agg #[.slice a n c], .agg #[.slice a' n c']] w fun e w' => e = .returned (.bool true) ∧ Below w.heap.size w w' := by
  obtain ⟨hlen, hrow⟩ := h
  obtain ⟨_, hrow'⟩ := h'
  have HR := hideIt hrow
  have HR' := hideIt hrow'
  clear hrow hrow'
  have dn : ((n : Int) != (n : Int)) = false := by simp
  go_enter Try.func10, Try.ntmps10
  go_wp2
  go_loopw [5] (fun i wr => ∃ k : Nat, k ≤ n ∧ i = .int .i64 (k : Int) ∧ Below (w.heap.size + 2) ((w.alloc (.cells #[.slice a n c] 26)).alloc (.cells #[.slice a' n c'] 26)) wr) (fun i _ => n - (intOf i).toNat)
  case atStart => exact ⟨0, by omega, rfl, Below.refl _ _⟩
  case round =>
    obtain ⟨k, hk, rfl, hb⟩ := hrel
    have q0 : wr.cell? ⟨w.heap.size, 0, none⟩ = some (.slice a n c) := by rw [hb.cell (by show w.heap.size < _; omega)]; simp
    have q1 : wr.cell? ⟨w.heap.size + 1, 0, none⟩ = some (.slice a' n c') := by rw [hb.cell (by show w.heap.size + 1 < _; omega)]; simp
    have KB : Below w.heap.size w wr := (((Below.refl w.heap.size w).alloc (Nat.le_refl _) _).alloc (by simp) _).trans (hb.mono (by omega))
    by_cases hlt : k < n
    · rcases HR.out with hz | ⟨b, off, rfl, hbl, hc⟩
      · omega
      · rcases HR'.out with hz | ⟨b', off', rfl, hbl', hc'⟩
        · omega
        · obtain ⟨f, hf⟩ : ∃ f, fs[k]? = some f := ⟨fs[k]'(by omega), List.getElem?_eq_getElem (by omega)⟩
          obtain ⟨c0, c1, c2⟩ := hc k f hf
          obtain ⟨d0, d1, d2⟩ := hc' k f hf
          have e0 : wr.cell? ⟨b, off + k * 3, none⟩ = some (.string f.name) := by rw [KB.cell hbl]; exact c0
          have e1 : wr.cell? ⟨b, off + k * 3 + 1, none⟩ = some (.string f.text) := by rw [KB.cell hbl]; exact c1
          have e2 : wr.cell? ⟨b, off + k * 3 + 2, none⟩ = some (.int .i64 f.kept) := by rw [KB.cell hbl]; exact c2
          have e3 : wr.cell? ⟨b', off' + k * 3, none⟩ = some (.string f.name) := by rw [KB.cell hbl']; exact d0
          have e4 : wr.cell? ⟨b', off' + k * 3 + 1, none⟩ = some (.string f.text) := by rw [KB.cell hbl']; exact d1
          have e5 : wr.cell? ⟨b', off' + k * 3 + 2, none⟩ = some (.int .i64 f.kept) := by rw [KB.cell hbl']; exact d2
          have b1 : (0 : Int) ≤ (k : Int) := by omega
          have b2 : (k : Int) < (n : Int) := by omega
          clear c0 c1 c2 d0 d1 d2 hc hc' hf
          go_wp2
          go_quiet (fail)
          go_wp2
          exact ⟨⟨k + 1, by omega, by go_num, below_drewN hb _⟩, by simp [intOf]; omega⟩
    · go_wp2
      go_ret
      exact ⟨rfl, KB⟩

set_option maxRecDepth 100000 in
set_option maxHeartbeats 2000000 in
theorem lefts_any (l : List Nat) (hl : l.length = 12) (g c : Nat) (w : World) (B : Nat) (h : w.ownsRow B 3 1 (.slice (some ⟨g, 0, none⟩) 12 c) 12 (nvs l)) :
    Calls Try.prog 7 #[.slice (some ⟨g, 0, none⟩) 12 c] w fun e w' => ∃ (g2 c2 : Nat) (ls : List Int), ls.length = 6 ∧ e = .returned (.slice (some ⟨g2, 0, none⟩) 6 c2) ∧ w'.ownsRow w.heap.size 3 1 (.slice (some ⟨g2, 0, none⟩) 6 c2) 6 (ic ls) ∧ Below w.heap.size w w' := by
  obtain ⟨i0, hi, hz0, hz1, hz2⟩ := info_parts info3i
  have hg := h.lt g rfl
  have HC : Hid (∀ j, j < 12 → ∃ z : Int, w.cell? ⟨g, j, none⟩ = some (.int .i64 z)) := fun j hj => by
    have := h.cellAt j (by omega)
    rw [show (nvs l)[j]? = some (.int .i64 ((l[j]'(by omega) : Nat) : Int)) by unfold nvs; rw [List.getElem?_map, List.getElem?_eq_getElem (by omega)]; rfl] at this
    exact ⟨_, this⟩
  clear h
  go_enter Try.func7, Try.ntmps7
  go_wp2
  go_loopw [3, 4] (fun out i wr => ∃ (k g2 c2 : Nat) (ls : List Int), k ≤ 6 ∧ i = .int .i64 k ∧ out = .slice (some ⟨g2, 0, none⟩) k c2 ∧ Hid (ls.length = k) ∧ wr.ownsRow w.heap.size 3 1 (.slice (some ⟨g2, 0, none⟩) k c2) k (ic ls) ∧ Below w.heap.size w wr) (fun _ i _ => 6 - (intOf i).toNat)
  case atStart => exact ⟨0, w.heap.size, 0, [], by omega, rfl, rfl, rfl, World.ownsRow_made _ _ _ (Nat.le_refl _) (by unfold maxLen; omega) rfl, (Below.refl _ _).alloc (Nat.le_refl _) _⟩
  case round =>
    obtain ⟨k, g2, c2, ls, hk, rfl, rfl, hll, hown, hb⟩ := hrel
    have hsz := hb.size
    by_cases hlt : k < 6
    · obtain ⟨z, hz⟩ := HC.out k (by omega)
      have hz3 : wr.cell? ⟨g, k, none⟩ = some (.int .i64 z) := by rw [hb.cell hg.2]; exact hz
      have b1 : (0 : Int) ≤ (k : Int) := by omega
      have b2 : (k : Int) < 12 := by omega
      go_wp2_with (at_builtin; refine wpList_append_lies _ rfl _ _ 28 rfl w.heap.size 3 i0 (.int .i64 0) 1 8 Try.underlying28 hi hz0 hz1 hz2 rfl (by decide) _ _ _ rfl (hown.alloc _) ⟨wr.heap.size, 0, none⟩ 1 1 [Value.int .i64 _] rfl rfl (one_new _ _ _) (by intro u hu; simp at hu; subst hu; rfl) (by omega) (by unfold maxLen; omega) (by omega) (by simp; omega) (wr.heap.size + 1) (by simp) ?_)
      intro g3 c3 w3 hown3 hg3 _ _
      have hrow : ∀ j, (Value.slice (some ⟨g2, 0, none⟩) k c2).ownBlock = some j → w.heap.size ≤ j := fun j hj => (hown.lt j hj).1
      have HB3 : Hid (Below w.heap.size w w3) := (hb.alloc (by omega) _).grown hg3 (by simp; omega) hrow
      have hown4 := hown3
      rw [show ∀ v : Int, ic ls ++ [Value.int .i64 v] = ic (ls ++ [v]) from fun v => by simp [ic]] at hown4
      have HL2 : ∀ v : Int, Hid ((ls ++ [v]).length = k + 1) := fun v => by show _ = _; rw [List.length_append, hll.out]; rfl
      clear hg3 hown hown3
      go_wp2
      go_roundw
      case rel => exact ⟨k + 1, g3, c3, _, by omega, by go_num, rfl, HL2 _, hown4, HB3.out⟩
      case measure => simp [intOf]; omega
    · obtain rfl : k = 6 := by omega
      go_wp2
      go_ret
      exact ⟨g2, c2, ls, hll.out, rfl, hown, hb⟩
end Go.Proofs.Ytegknhnmfaafmaa
