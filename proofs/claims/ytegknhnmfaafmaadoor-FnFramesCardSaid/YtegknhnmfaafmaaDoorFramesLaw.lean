/- The walk of FnFrames: for every bytes the law returns true and nothing that was there has turned, where the program's table stands. -/
import Derived.Test.YtegknhnmfaafmaaDoorIUnframe
import Derived.Test.YtegknhnmfaafmaaDoorFrs
import Derived.Test.YtegknhnmfaafmaaDoorDrawSum
import Derived.Laws.Concat
import Derived.Deep.AppendLies
namespace Go.Proofs.YtegknhnmfaafmaaDoor
open Go.RowKit Vt Crc

theorem code_below {w w' : World} {a : Option Addr} {len : Nat} (h : Code w w.heap.size a len) (hb : Below w.heap.size w w') : Code w' w'.heap.size a len := by
  rcases h with h | ⟨b, off, ha, hbl, hn, hc⟩
  · exact .inl h
  · have := hb.size
    refine .inr ⟨b, off, ha, by omega, by omega, fun j hj => ?_⟩
    obtain ⟨z, hz, hcell⟩ := hc j hj
    exact ⟨z, hz, by rw [hb.cell hbl]; exact hcell⟩

theorem nvs_at (l : List Nat) (j : Nat) (h : j < l.length) : (nvs l)[j]? = some (.int .i64 ((l.getD j 0 : Nat) : Int)) := by
  unfold nvs
  rw [List.getElem?_map, List.getD_eq_getElem?_getD, List.getElem?_eq_getElem h]; rfl

theorem same_zero (a b : Option Addr) (c d : Nat) (w : World) :
    Calls Tryd.prog 11 #[.slice a 0 c, .slice b 0 d] w fun e w' => e = .returned (.bool true) ∧ Below w.heap.size w w' := by
  go_enter Tryd.func11, Tryd.ntmps11
  go_wp2
  refine wp_loop_rounds 1 ?_
  rw [rounds_succ]
  go_wp2
  go_ret
  exact ⟨rfl, Below.refl _ _⟩

set_option maxRecDepth 100000 in
set_option maxHeartbeats 1000000 in
theorem same_any (g1 g2 c1 c2 n : Nat) (ss : List ByteArray) (hl : n ≤ ss.length) (hn : n ≤ 1000000) (w : World)
    (h1 : ∀ j (h : j < ss.length), j < n → w.cell? ⟨g1, j, none⟩ = some (.string (ss[j]))) (h2 : ∀ j (h : j < ss.length), j < n → w.cell? ⟨g2, j, none⟩ = some (.string (ss[j]))) :
    Calls Tryd.prog 11 #[.slice (some ⟨g1, 0, none⟩) n c1, .slice (some ⟨g2, 0, none⟩) n c2] w fun e w' => e = .returned (.bool true) ∧ Below w.heap.size w w' := by
  have H1 := hideIt h1
  have H2 := hideIt h2
  have HL := hideIt hl
  clear h1 h2 hl
  go_enter Tryd.func11, Tryd.ntmps11
  go_wp2
  go_loopw [5] (fun i wr => ∃ k q : Nat, k ≤ n ∧ i = .int .i64 k ∧ wr = w.drewN q) (fun i _ => n - (intOf i).toNat)
  case atStart => exact ⟨0, 0, by omega, rfl, rfl⟩
  case round =>
    obtain ⟨k, q, hk, rfl, rfl⟩ := hrel
    by_cases hlt : k < n
    · have hks : k < ss.length := Nat.lt_of_lt_of_le hlt HL.out
      obtain ⟨S, hS⟩ : ∃ S, S = ss[k] := ⟨_, rfl⟩
      have c1 : w.cell? ⟨g1, k, none⟩ = some (.string S) := by rw [hS]; exact H1.out k hks hlt
      have c2 : w.cell? ⟨g2, k, none⟩ = some (.string S) := by rw [hS]; exact H2.out k hks hlt
      have b1 : (0 : Int) ≤ (k : Int) := by omega
      have b2 : (k : Int) < (n : Int) := by omega
      clear hS
      go_wp2
      go_quiet (fail)
      go_wp2
      go_roundw
      case rel => exact ⟨k + 1, _, by omega, by go_num, rfl⟩
      case measure => simp [intOf]; omega
    · go_wp2
      go_ret
      exact ⟨rfl, below_drewN (Below.refl _ _) _⟩

/-- the three texts of the law -/
def three (A : ByteArray) : List ByteArray := [A, ⟨#[116, 119, 111]⟩, ⟨#[116, 104, 114, 101, 101, 32, 97, 110, 100, 32, 109, 111, 114, 101]⟩]

/-- the file behind k frames -/
def fileAt (L : List ByteArray) : Nat → ByteArray
  | 0 => ⟨#[]⟩
  | k + 1 => fileAt L k ++ frm (L.getD k ⟨#[]⟩)

theorem flat_app (X Y : List ByteArray) : flat (X ++ Y) = flat X ++ flat Y := by simp [flat]

theorem fileAt_list (L : List ByteArray) : ∀ k, k ≤ L.length → (fileAt L k).data.toList = flat (L.take k)
  | 0, _ => rfl
  | k + 1, h => by
    rw [List.take_succ_eq_append_getElem (by omega), flat_app, ← fileAt_list L k (by omega), flat_cons, flat_nil, List.append_nil]
    show (fileAt L k ++ frm (L.getD k ⟨#[]⟩)).data.toList = _
    rw [ByteArray.data_append, Array.toList_append, List.getD_eq_getElem?_getD, List.getElem?_eq_getElem (by omega)]
    rfl

theorem fileAt_size (L : List ByteArray) (k : Nat) (h : k ≤ L.length) : (fileAt L k).size = endAt L k := by
  rw [← list_size, fileAt_list L k h]; rfl

/-- what the law's walk bears: the texts in a row, the first place that was drawn -/
structure FrW (L : List ByteArray) (w : World) (gl gp z B : Nat) (W : World) : Prop where
  low : Below w.heap.size w W
  old : w.heap.size ≤ B
  size : B ≤ W.heap.size
  txt : ∀ j, j < 3 → W.cell? ⟨gl, j, none⟩ = some (.string (L.getD j ⟨#[]⟩))
  txtB : gl < B
  plc : W.cell? ⟨gp, 0, none⟩ = some (.int .i64 (z : Int))
  plcB : gp < B

theorem FrW.grown {L : List ByteArray} {w : World} {gl gp z B : Nat} {W W' : World} {row : Option Nat} (h : FrW L w gl gp z B W) (hg : W.grownBy W' row) (hr : ∀ k, row = some k → B ≤ k) : FrW L w gl gp z B W' := by
  have h1 := h.txtB
  have h2 := h.plcB
  have h3 := h.size
  refine ⟨h.low.grown hg (Nat.le_trans h.old h.size) (fun k hk => Nat.le_trans h.old (hr k hk)), h.old, Nat.le_trans h.size hg.size, fun j hj => ?_, h.txtB, ?_, h.plcB⟩
  · rw [hg.cell_far ⟨gl, j, none⟩ (by show gl < _; omega) (fun e => by have : B ≤ gl := hr _ e.symm; omega)]
    exact h.txt j hj
  · rw [hg.cell_far ⟨gp, 0, none⟩ (by show gp < _; omega) (fun e => by have : B ≤ gp := hr _ e.symm; omega)]
    exact h.plc

theorem FrW.below {L : List ByteArray} {w : World} {gl gp z B : Nat} {W W' : World} (h : FrW L w gl gp z B W) (hb : Below W.heap.size W W') : FrW L w gl gp z B W' :=
  h.grown (grown_low hb none) (fun k hk => by cases hk)

/-- all that is asked of the three texts -/
structure Trio (L : List ByteArray) : Prop where
  len : L.length = 3
  ok : ∀ r ∈ L, 1 ≤ r.size ∧ r.size ≤ 9000
  all : (flat L).length ≤ 2000

theorem vt_short (n : Nat) (h : n ≤ 900) : (vt n).length ≤ 2 := vt_len 1 n (by omega)

theorem frm_short (r : ByteArray) (h : r.size ≤ 900) : (frm r).size ≤ r.size + 6 := by
  have := vt_short r.size h
  rw [← list_size (frm r), frm_list, List.length_append, List.length_append, four_length, list_size]; omega

theorem trio (A : ByteArray) (h1 : 1 ≤ A.size) (h2 : A.size ≤ 900) : Trio (three A) := by
  have e1 : (⟨#[116, 119, 111]⟩ : ByteArray).size = 3 := rfl
  have e2 : (⟨#[116, 104, 114, 101, 101, 32, 97, 110, 100, 32, 109, 111, 114, 101]⟩ : ByteArray).size = 14 := rfl
  refine ⟨rfl, ?_, ?_⟩
  · intro r hr
    simp only [three, List.mem_cons, List.not_mem_nil, or_false] at hr
    rcases hr with rfl | rfl | rfl
    · omega
    · omega
    · omega
  · unfold three
    rw [flat_cons, flat_cons, flat_cons, flat_nil, List.append_nil, List.length_append, List.length_append, list_size, list_size, list_size]
    have a1 := frm_short A h2
    have a2 := frm_short ⟨#[116, 119, 111]⟩ (by omega)
    have a3 := frm_short ⟨#[116, 104, 114, 101, 101, 32, 97, 110, 100, 32, 109, 111, 114, 101]⟩ (by omega)
    omega

theorem Trio.place {L : List ByteArray} (h : Trio L) (m : Nat) : endAt L m ≤ 2000 := by
  have := h.all
  unfold endAt
  have e : flat L = flat (L.take m) ++ flat (L.drop m) := by rw [← flat_app, List.take_append_drop]
  have := congrArg List.length e
  rw [List.length_append] at this
  omega

theorem Trio.whole {L : List ByteArray} (h : Trio L) : un (fileAt L 3) = (L, endAt L 3) := by
  have hl := h.len
  have hf := fileAt_list L 3 (by omega)
  have hz := fileAt_size L 3 (by omega)
  have hp := h.place 3
  rw [List.take_of_length_le (by omega)] at hf
  rw [un_whole L (fileAt L 3) h.ok hf (by omega), hz]

theorem Trio.cut {L : List ByteArray} (h : Trio L) (t : Nat) (ht : t ≤ endAt L 3) :
    ∃ m, m ≤ 3 ∧ un ((fileAt L 3).extract 0 t) = (L.take m, endAt L m) ∧ endAt L m ≤ t ∧ (m = 3 ∨ t < endAt L (m + 1)) := by
  have hl := h.len
  have hf := fileAt_list L 3 (by omega)
  rw [List.take_of_length_le (by omega)] at hf
  have hp := h.place 3
  have he : (flat L).length = endAt L 3 := by unfold endAt; rw [List.take_of_length_le (by omega)]
  have hs : ((fileAt L 3).extract 0 t).data.toList = (flat L).take t := by rw [ext_list']; unfold from_; rw [List.drop_zero, Nat.sub_zero, hf]
  obtain ⟨m, h1, h2, h3, h4⟩ := un_of_cut L _ h.ok t hs (by omega) (by rw [ByteArray.size_extract]; omega)
  exact ⟨m, by omega, h2, h3, by omega⟩

/-- the places behind the first frames -/
def ends (L : List ByteArray) (k : Nat) : List Nat := (List.range (k + 1)).map (endAt L)
theorem ends_snoc (L : List ByteArray) (k : Nat) : ends L k ++ [endAt L (k + 1)] = ends L (k + 1) := by
  unfold ends; rw [List.range_succ (n := k + 1), List.map_append]; rfl
theorem ends_length (L : List ByteArray) (k : Nat) : (ends L k).length = k + 1 := by simp [ends]
theorem ends_at (L : List ByteArray) (k j : Nat) (h : j ≤ k) : (nvs (ends L k))[j]? = some (.int .i64 ((endAt L j : Nat) : Int)) := by
  have hj : j < (ends L k).length := by rw [ends_length]; omega
  unfold nvs
  rw [List.getElem?_map, List.getElem?_eq_getElem hj]
  simp [ends]

/-- what the second reading answers, by the number of its texts -/
def CutOut (L : List ByteArray) (m : Nat) (w : World) (e : Ending) (w' : World) : Prop :=
  ∃ a c, e = .returned (.tuple #[.slice a m c, .int .i64 ((endAt L m : Nat) : Int)]) ∧ (0 < m → ∃ g, a = some ⟨g, 0, none⟩ ∧ ∀ j, j < m → w'.cell? ⟨g, j, none⟩ = some (.string (L.getD j ⟨#[]⟩))) ∧ Below w.heap.size w w'

theorem cutOut {L : List ByteArray} {s : ByteArray} {m : Nat} (hm : m ≤ L.length) (hu : un s = (L.take m, endAt L m)) {w : World} {e : Ending} {w' : World} (h : UnOut s w e w') : CutOut L m w e w' := by
  have hl : (un s).1.length = m := by rw [hu]; simp; omega
  by_cases h0 : 0 < m
  · obtain ⟨g, c, he, ho, hb⟩ := outP h (by omega)
    rw [hl] at he ho
    rw [hu] at he ho
    refine ⟨_, _, he, fun _ => ⟨g, rfl, fun j hj => ?_⟩, hb⟩
    have e1 : ((L.take m).map Value.string)[j]? = some (.string (L.getD j ⟨#[]⟩)) := by
      rw [List.getElem?_map, List.getElem?_take, if_pos hj, List.getD_eq_getElem?_getD, List.getElem?_eq_getElem (show j < L.length by omega)]; rfl
    rw [ho.cellAt j (by omega)]
    exact e1
  · have hz : (un s).1 = [] := List.length_eq_zero_iff.1 (by omega)
    obtain ⟨a, c, he, hb⟩ := outZ h hz
    obtain rfl : m = 0 := by omega
    rw [hu] at he
    exact ⟨a, c, he, fun hx => by omega, hb⟩

/-- 'sameTexts' over a row of the first m texts -/
theorem same_cut {L : List ByteArray} (hL : L.length = 3) {m : Nat} (hm : m ≤ 3) {a : Option Addr} {gl c d : Nat} {w : World} (h1 : 0 < m → ∃ g, a = some ⟨g, 0, none⟩ ∧ ∀ j, j < m → w.cell? ⟨g, j, none⟩ = some (.string (L.getD j ⟨#[]⟩)))
    (h2 : ∀ j, j < 3 → w.cell? ⟨gl, j, none⟩ = some (.string (L.getD j ⟨#[]⟩))) :
    Calls Tryd.prog 11 #[.slice a m c, .slice (some ⟨gl, 0, none⟩) m d] w fun e w' => e = .returned (.bool true) ∧ Below w.heap.size w w' := by
  by_cases h0 : 0 < m
  · obtain ⟨g, rfl, hc⟩ := h1 h0
    refine same_any g gl c d m L (by omega) (by omega) w (fun j hj hjm => ?_) (fun j hj hjm => ?_)
    · rw [hc j hjm, List.getD_eq_getElem?_getD, List.getElem?_eq_getElem hj]; rfl
    · rw [h2 j (by omega), List.getD_eq_getElem?_getD, List.getElem?_eq_getElem hj]; rfl
  · obtain rfl : m = 0 := by omega
    exact same_zero _ _ _ _ w

theorem tFrame {L : List ByteArray} (hL : Trio L) (k : Nat) (hk : k < 3) (W : World) (ht : Tab W) :
    Calls Tryd.prog 9 #[.string (L.getD k ⟨#[]⟩)] W fun e w' => e = .returned (.tuple #[.string (frm (L.getD k ⟨#[]⟩)), .bool true]) ∧ Below W.heap.size W w' := by
  have hl := hL.len
  have hm : L.getD k ⟨#[]⟩ ∈ L := by
    rw [List.getD_eq_getElem?_getD, List.getElem?_eq_getElem (by omega)]
    exact List.getElem_mem _
  have := hL.ok _ hm
  exact iFrame_yes _ this.1 this.2 W ht
end Go.Proofs.YtegknhnmfaafmaaDoor
