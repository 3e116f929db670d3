/- What DrawSumOf and DrawPlaces give: some short text; twelve numbers below 10000 in a list of their own. -/
import Derived.Test.YtegknhnmfaafmaaDoorDraw1
namespace Go.Proofs.YtegknhnmfaafmaaDoor
open Go.RowKit

theorem info3 : (Tryd.prog.info? 3).map (fun i => (i.zero, i.size, i.bytes)) = some (some (.int .i64 0), 1, 8) := by kernel_rfl

/-- the cells of the numbers l -/
def nvs (l : List Nat) : List Value := l.map fun (z : Nat) => Value.int .i64 (z : Int)
theorem nvs_snoc (l : List Nat) (x : Nat) : nvs l ++ [Value.int .i64 (x : Int)] = nvs (l ++ [x]) := by simp [nvs]

theorem ownsRow_mono {w : World} {B B' e s n : Nat} {v : Value} {xs : List Value} (h : w.ownsRow B e s v n xs) (hB : B' ≤ B) : w.ownsRow B' e s v n xs :=
  ⟨h.1, h.2.imp id (fun ⟨g, cap, cur, a, b, rest⟩ => ⟨g, cap, cur, a, Nat.le_trans hB b, rest⟩)⟩

set_option maxRecDepth 100000 in
set_option maxHeartbeats 2000000 in
theorem drawPlaces_any (w : World) (a : Option Addr) (len cap : Nat) (hl : len ≤ 1048576) (hcode : Code w w.heap.size a len) :
    Calls Tryd.prog 7 #[.slice a len cap] w fun e w' => ∃ (g c : Nat) (l : List Nat), l.length = 12 ∧ (∀ z ∈ l, z < 10000) ∧ e = .returned (.slice (some ⟨g, 0, none⟩) 12 c) ∧ w'.ownsRow w.heap.size 3 1 (.slice (some ⟨g, 0, none⟩) 12 c) 12 (nvs l) ∧ Below w.heap.size w w' := by
  obtain ⟨i0, hi, hz0, hz1, hz2⟩ := info_parts info3
  have HN := hideIt (l01New_any w a len cap hl hcode)
  have HLow0 := hideIt (code_low (B := w.heap.size) hcode (Nat.le_refl _))
  clear hcode
  go_enter Tryd.func7, Tryd.ntmps7
  go_wp2_with (go_at_call 17; refine HN.out.mono ?_; rintro e w1 ⟨rfl, hc, hd, hb, hs⟩; refine Hid.out ?_)
  refine (show ∀ {p : Prop}, p → Hid p from fun h => h) ?_
  have HP := hideIt (l01Byte_drawn w1 w.heap.size a len cap hl hc hd)
  clear hc hd HN
  go_wp2_with (go_at_call 18; refine HP.out.mono ?_; rintro e w2 ⟨x, hx, rfl, dr⟩; refine Hid.out ?_)
  refine (show ∀ {p : Prop}, p → Hid p from fun h => h) ?_
  have hb2 := hb.trans (dr.below (Nat.le_refl _) (by omega))
  have s2 := dr.grown.size
  have HC := hideIt (dr.cur.alloc (.cells #[] 3))
  have HD := hideIt (dr.code.alloc (.cells #[] 3))
  have HB := hideIt (fun (W : World) (hc : Cur W w.heap.size a len cap) (hd : Code W w.heap.size a len) => l01Below_any 10000 (by omega) (by omega) W w.heap.size a len cap hl hc hd)
  clear dr HP hb hx
  go_wp2
  go_loopw [4, 5] (fun out i wr => ∃ (k g c : Nat) (l : List Nat), k ≤ 12 ∧ i = .int .i64 k ∧ out = .slice (some ⟨g, 0, none⟩) k c ∧ Hid (l.length = k ∧ ∀ z ∈ l, z < 10000) ∧ wr.ownsRow w2.heap.size 3 1 (.slice (some ⟨g, 0, none⟩) k c) k (nvs l) ∧ Hid (Cur wr w.heap.size a len cap) ∧ Hid (Code wr w.heap.size a len) ∧ Below w.heap.size w wr ∧ w2.heap.size ≤ wr.heap.size)
    (fun _ i _ => 12 - (intOf i).toNat)
  case atStart => exact ⟨0, w2.heap.size, 0, [], by omega, rfl, rfl, ⟨rfl, by simp⟩, World.ownsRow_made _ _ _ (Nat.le_refl _) (by unfold maxLen; omega) rfl, HC, HD, hb2.alloc (by omega) _, by simp⟩
  case round =>
    obtain ⟨k, g, c, l, hk, rfl, rfl, hll, hown, hc, hd, hb, hsz2⟩ := hrel
    have hsz := hb.size
    clear HC HD
    by_cases hlt : k < 12
    · go_wp2_with (go_at_call 19; refine (HB.out _ hc.out hd.out).mono ?_; rintro e w3 ⟨x, hx, rfl, dr⟩; refine Hid.out ?_)
      refine (show ∀ {p : Prop}, p → Hid p from fun h => h) ?_
      have lg := hown.lt g rfl
      have hown1 := World.ownsRow.kept hown dr.grown (.inr (by simp [Value.ownBlock]; omega))
      have s1 := dr.grown.size
      have hb1 := hb.trans (dr.below (Nat.le_refl _) (by omega))
      have HC1 := hideIt dr.cur
      have HD1 := hideIt dr.code
      clear dr hown hb hc hd
      go_wp2_with (at_builtin; refine wpList_append_lies _ rfl _ _ 24 rfl w2.heap.size 3 i0 (.int .i64 0) 1 8 Tryd.underlying24 hi hz0 hz1 hz2 rfl (by decide) _ _ _ rfl (hown1.alloc _) ⟨w3.heap.size, 0, none⟩ 1 1 [Value.int .i64 (x : Int)] rfl rfl (one_new _ _ _) (by intro u hu; simp at hu; subst hu; rfl) (by omega) (by unfold maxLen; omega) (by omega) (by simp; omega) (w3.heap.size + 1) (by simp) ?_)
      intro g2 c2 w4 hown2 hg2 _ _
      have hrow : ∀ j, (Value.slice (some ⟨g, 0, none⟩) k c).ownBlock = some j → w2.heap.size ≤ j := fun j hj => by simp [Value.ownBlock] at hj; omega
      have HB2 : Hid (Below w.heap.size w w4) := (hb1.alloc (by omega) _).grown hg2 (by simp; omega) (fun j hj => by have := hrow j hj; omega)
      have HC2 : Hid (Cur w4 w.heap.size a len cap) := (HC1.out.alloc _).kept hg2 (by simp [Value.ownBlock]; omega)
      have HD2 : Hid (Code w4 w.heap.size a len) := code_row (HD1.out.alloc _) HLow0.out hg2 (fun j hj => by have := hrow j hj; omega)
      have s4 : w2.heap.size ≤ w4.heap.size := by have := hg2.size; simp at this; omega
      rw [nvs_snoc l x] at hown2
      have HL2 : Hid ((l ++ [x]).length = k + 1 ∧ ∀ z ∈ l ++ [x], z < 10000) := by
        refine ⟨by rw [List.length_append, hll.out.1]; rfl, fun z hz => ?_⟩
        rcases List.mem_append.1 hz with hz | hz
        · exact hll.out.2 z hz
        · simp at hz; omega
      clear hg2 hown1 hb1 HC1 HD1
      go_wp2
      go_roundw
      case rel => exact ⟨k + 1, g2, c2, _, by omega, by go_num, rfl, HL2, hown2, HC2, HD2, HB2, s4⟩
      case measure => simp [intOf]; omega
    · obtain rfl : k = 12 := by omega
      have HO := hideIt hown
      clear hown
      go_wp2
      go_ret
      exact ⟨g, c, l, hll.out.1, hll.out.2, rfl, ownsRow_mono HO.out (by omega), hb⟩
end Go.Proofs.YtegknhnmfaafmaaDoor
