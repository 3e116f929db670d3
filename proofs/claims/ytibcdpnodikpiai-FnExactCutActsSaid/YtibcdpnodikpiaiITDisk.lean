/- What the program's table makes again of itself: a disk. -/
import Derived.Test.YtibcdpnodikpiaiINames
import Derived.Test.YtibcdpnodikpiaiICopy
import Derived.Test.YtibcdpnodikpiaiIDo2
import Derived.Deep.AppendLies
namespace Go.Proofs.Ytibcdpnodikpiai
open Go.RowKit Go.WideMaps Go.Maps Go.Sort

theorem grown_refl (w : World) (row : Option Nat) : w.grownBy w row := ⟨rfl, rfl, rfl, Nat.le_refl _, fun _ _ _ => rfl⟩
/-- a row of names -/
def Ns (w : World) (va : Option Addr) (n : Nat) (fs : List FileV) : Prop :=
  fs.length = n ∧ (n = 0 ∨ ∃ g, va = some ⟨g, 0, none⟩ ∧ g < w.heap.size ∧ ∀ (j : Nat) (f : FileV), fs[j]? = some f → w.cell? ⟨g, j, none⟩ = some (.string f.name))

theorem keys_any (M : Nat) (w : World) : Calls Try.prog 57 #[.map (some M)] w fun e w' => e = .returned (.func (.func 62) #[] #[.pointer (some ⟨w.heap.size, 0, none⟩)]) ∧ w' = w.alloc (.cells #[.map (some M)] 68) :=
  callsIn_wide.1 (Try.maps_Keys_57 (some M) w)
theorem sorted_any (w : World) (B M : Nat) (loc : ByteArray → Nat) (fs : List FileV) (D : DataW Unit) (T : Tab w B M loc fs D) (hd : DiskR fs) (H : Nat) (hH : w.heap.size = H) :
    Calls Try.prog 56 #[.func (.func 62) #[] #[.pointer (some ⟨H, 0, none⟩)]] (w.alloc (.cells #[.map (some M)] 68)) fun e w' => ∃ va vc, e = .returned (.slice va fs.length vc) ∧ Ns w' va fs.length fs ∧ (∀ g, va = some ⟨g, 0, none⟩ → H < g) ∧ Below (H + 1) (w.alloc (.cells #[.map (some M)] 68)) w' := by
  subst hH
  have h30 := hd.1
  have hsrt := ((disk_iff fs).1 hd).2.2
  have H := callsIn_wide.1 (Try.slices_Sorted_keys_56_57 M _ D ptrR w T.own (by rw [T.size]; unfold maxLen; omega) (by rw [T.size]; omega))
  refine H.mono ?_
  rintro e w' ⟨v, ss, rfl, hp, hrow, hnil, hb⟩
  have hso := names_sorted T hsrt hp
  have hl : ss.length = fs.length := by rw [← List.length_mergeSort (le := fun x y => decide (x ≤ y)) ss, hso, List.length_map]
  rw [hso, hl] at hrow
  have hsz : (w.alloc (.cells #[.map (some M)] 68)).heap.size = w.heap.size + 1 := by simp
  rw [hsz] at hrow hb
  have hr := hrow
  rcases hrow.2 with ⟨rfl, h0⟩ | ⟨g, cap, cur, rfl, hg, hcur, _⟩
  · refine ⟨none, 0, by rw [h0], ⟨rfl, .inl h0⟩, fun g hg => (by cases hg), hb⟩
  · refine ⟨some ⟨g, 0, none⟩, cap, rfl, ⟨rfl, .inr ⟨g, rfl, (Array.getElem?_eq_some_iff.1 hcur).1, fun j f hf => ?_⟩⟩, fun g' hg' => (by cases hg'; omega), hb⟩
    have := hr.cells (g := g) rfl j (.string f.name) (by
      rw [List.getElem?_map, List.getElem?_map, hf]
      simp [nmOf])
    rw [← this]
    by_cases h0 : j = 0
    · subst h0; rfl
    · simp [Addr.add, h0]

set_option maxRecDepth 100000 in
set_option maxHeartbeats 8000000 in
theorem tDisk_any (W : World) (B M : Nat) (loc : ByteArray → Nat) (fs : List FileV) (D : DataW Unit) (T : Tab W B M loc fs D) (hd : DiskR fs) :
    Calls Try.prog 42 #[.map (some M)] W fun e w' => ∃ g c, e = .returned (.agg #[.slice (some ⟨g, 0, none⟩) fs.length c]) ∧ w'.ownsRow W.heap.size 63 3 (.slice (some ⟨g, 0, none⟩) fs.length c) fs.length (fcells fs) ∧ Below W.heap.size W w' := by
  have h30 := hd.1
  obtain ⟨i0, hi, hz0, hz1, hz2⟩ := info_parts infoIF
  have hlen := (T.alloc (.cells #[.slice none 0 0] 31)).len
  have hmk : ∀ u : World, (Instr.makeSlice 29 (.int .i64 0) (.int .i64 (fs.length : Int))).run Try.prog u =
      .ok (.slice (some ⟨u.heap.size, 0, none⟩) 0 fs.length) (u.alloc (.cells (madeCells #[.string .empty, .string .empty, .int .i64 0] (fs.length * 3)) 63)) := fun u => by
    have h := run_make (P := Try.prog) u 29 63 i0 _ Try.underlying29 hi hz0 .i64 .i64 0 (fs.length : Int) (by omega) (by omega) (by rw [hz2]; omega) (by omega)
    rw [Int.toNat_natCast] at h
    simpa [hz1, Value.cells] using h
  have T2 := (T.alloc (.cells #[.slice none 0 0] 31)).alloc (.cells (madeCells #[.string .empty, .string .empty, .int .i64 0] (fs.length * 3)) 63)
  have HS := hideIt (sorted_any _ B M loc fs D T2 hd (W.heap.size + 1 + 1) (by simp))
  have HT := hideIt T
  have HD := hideIt hd
  clear T T2 hd
  go_enter Try.func42, Try.ntmps42
  go_wp2_with (first
    | (go_at_call 57; refine (keys_any _ _).mono ?_; rintro e w1 ⟨rfl, rfl⟩)
    | (go_at_call 56; refine HS.out.mono ?_; rintro e w3 ⟨va, vc, rfl, hN, hgN, hb3⟩; refine Hid.out ?_))
  refine (show ∀ {p : Prop}, p → Hid p from fun h => h) ?_
  have hs3 := hb3.size
  simp at hs3
  have own3 : w3.ownsRow (W.heap.size + 1) 63 3 (.slice (some ⟨W.heap.size + 1, 0, none⟩) 0 fs.length) 0 [] := by
    have h0 := World.ownsRow_made (base := W.heap.size + 1) (e := 63) (size := 3) (W.alloc (.cells #[.slice none 0 0] 31)) (madeCells #[.string .empty, .string .empty, .int .i64 0] (fs.length * 3)) fs.length (by simp) (by unfold maxLen; omega) (by simp [madeCells])
    rw [show (W.alloc (.cells #[.slice none 0 0] 31)).heap.size = W.heap.size + 1 by simp] at h0
    have h1 := h0.alloc (.cells #[.map (some M)] 68)
    refine World.ownsRow.kept h1 (row := none) ⟨hb3.os, hb3.tape, hb3.output, hb3.size, fun k hk _ => hb3.block k ?_⟩ (.inr (by simp [Value.ownBlock]))
    simp at hk
    omega
  have K3 : Below (W.heap.size + 1) (W.alloc (.cells #[.slice none 0 0] 31)) w3 := by
    have h0 := (((Below.refl (W.heap.size + 1) (W.alloc (.cells #[.slice none 0 0] 31))).alloc (by simp) (.cells (madeCells #[.string .empty, .string .empty, .int .i64 0] (fs.length * 3)) 63)).alloc (by simp) (.cells #[.map (some M)] 68))
    exact h0.trans (hb3.mono (by omega))
  have HN := hideIt hN
  have HGN := hideIt hgN
  have HO3 := hideIt own3
  have HK3 := hideIt K3
  clear HS hN hgN hb3 own3 K3 hlen hmk
  have T3 : Tab w3 B M loc fs D := by
    refine (HT.out.alloc (.cells #[.slice none 0 0] 31)).up ?_
    rw [show (W.alloc (.cells #[.slice none 0 0] 31)).heap.size = W.heap.size + 1 by simp]
    exact HK3.out
  have HT3 := hideIt T3
  clear T3
  have hML := HT.out.map_lt
  go_wp2
  go_loopw [3, 13] (fun s i wr => ∃ (k g cap : Nat), k ≤ fs.length ∧ i = .int .i64 (k : Int) ∧ s = .slice (some ⟨g, 0, none⟩) k cap ∧ (g = W.heap.size + 1 ∨ w3.heap.size ≤ g) ∧ Hid (wr.ownsRow (W.heap.size + 1) 63 3 (.slice (some ⟨g, 0, none⟩) k cap) k (fcells (fs.take k))) ∧ w3.grownBy wr (some (W.heap.size + 1))) (fun _ i _ => fs.length - (intOf i).toNat)
  case atStart => exact ⟨0, _, _, by omega, rfl, rfl, .inl rfl, HO3.out, grown_refl _ _⟩
  case round =>
    obtain ⟨k, g, cap, hk, rfl, rfl, hg, hown, hgr⟩ := hrel
    have hsz := hgr.size
    by_cases hlt : k < fs.length
    · obtain ⟨f, hf⟩ : ∃ f, fs[k]? = some f := ⟨fs[k]'(by omega), List.getElem?_eq_getElem (by omega)⟩
      have hfm := List.mem_of_getElem? hf
      obtain ⟨hok, hnm8⟩ : FileOk f ∧ f.name.size ≤ 8 := by
        have := ((disk_iff fs).1 HD.out).2.1 f hfm
        exact ⟨this, this.1.2⟩
      have htx := hok.2.1
      have hnm : f.name.size ≤ maxLen := by unfold maxLen; omega
      rcases HN.out.2 with hz | ⟨g0, hva, hg0, hc0⟩
      · omega
      · have hgg := HGN.out g0 hva
        subst hva
        have e0 : wr.cell? ⟨g0, k, none⟩ = some (.string f.name) := by rw [hgr.cell_far ⟨g0, k, none⟩ hg0 (by simp; omega)]; exact hc0 k f hf
        have b1 : (0 : Int) ≤ (k : Int) := by omega
        have b2 : (k : Int) < (fs.length : Int) := by omega
        have hlf := HT.out.loc_ne hfm
        have Twr : Tab wr B M loc fs D := { HT3.out with own := HT3.out.own.kept hgr (by simp; omega), box := fun x hx => (HT3.out.box x hx).grown hgr (by have := (HT.out.loc_ne hx).2.2; simp; omega) }
        obtain ⟨x0, x1, x2⟩ := (Twr.box f hfm).cells
        have hlw : loc f.name < wr.heap.size := (Twr.box f hfm).lt
        have HTw := hideIt Twr
        have HM := hideIt hfm
        have HC := hideIt (copyOf_any f (by omega) (by omega) wr)
        have HTk := hideIt (take_snocF fs k f hf)
        clear hf hfm Twr hok hc0
        go_wp2_with (first
          | (at_lookup; refine look_at _ rfl _ _ rfl HTw.out HM.out rfl hnm rfl rfl ?_)
          | (go_at_call 46; refine HC.out.mono ?_; rintro e w4 ⟨rfl, hb4⟩; refine Hid.out ?_))
        refine (show ∀ {p : Prop}, p → Hid p from fun h => h) ?_
        have own4 := World.ownsRow.kept hown.out (grownOf hb4 none) (.inr (by simp [Value.ownBlock]))
        have hs4 := hb4.size
        have hs0 : W.heap.size + 1 ≤ w4.heap.size := by omega
        clear HC x0 x1 x2 e0
        go_wp2_with (at_builtin; refine wpList_append_lies _ rfl _ _ 29 rfl (W.heap.size + 1) 63 i0 _ 3 40 Try.underlying29 hi hz0 hz1 hz2 rfl (by decide) _ _ _ rfl (own4.alloc _) ⟨w4.heap.size, 0, none⟩ 1 1 [.string f.name, .string f.text, .int .i64 f.kept] rfl rfl (World.news_of_block (cs := #[.string f.name, .string f.text, .int .i64 f.kept]) (t := 63) (fr := (0, 0)) (heap_alloc_new w4 _)) (by simp [Value.oneCell']) (by omega) (by unfold maxLen; omega) (by omega) (by simp; omega) (w4.heap.size + 1) (by simp) ?_; intro g1 cap1 w5 hown5 hg5 hat5 hlt5)
        have hg6 : (w4.alloc (.cells #[.string f.name, .string f.text, .int .i64 f.kept] 63)).grownBy w5 (some g) := hg5
        have hat6 : some g = some g1 ∨ g1 = w4.heap.size + 1 := hat5
        clear hg5 hat5
        refine ⟨⟨k + 1, g1, cap1, by omega, by go_num, rfl, ?_, ?_, ?_⟩, by simp [intOf]; omega⟩
        · rcases hat6 with h | h
          · simp at h
            subst h
            exact hg
          · right; omega
        · show _
          rw [HTk.out, fcells_snoc]
          exact hown5
        · refine ⟨?_, ?_, ?_, ?_, fun b hb hne => ?_⟩
          · rw [hg6.os]; exact hb4.os.trans hgr.os
          · rw [hg6.tape]; exact hb4.tape.trans hgr.tape
          · rw [hg6.output]; exact hb4.output.trans hgr.output
          · have := hg6.size; simp at this; omega
          · rw [hg6.block b (by simp; omega) (by simp at hne ⊢; omega), Below.heap_alloc _ _ b (by omega), hb4.block b (by omega), hgr.block b hb hne]
    · obtain rfl : k = fs.length := by omega
      have hown' := hown.out
      rw [List.take_of_length_le (Nat.le_refl _)] at hown'
      have HO := hideIt (own_setLow hown' W.heap.size 0 (.slice (some ⟨g, 0, none⟩) fs.length cap) (by omega))
      have bx : Box wr W.heap.size 31 (.slice none 0 0) := by
        refine Box.grown ?_ hgr (by simp)
        exact (Box.new W 31 (.slice none 0 0) W.heap.size rfl).below HK3.out (by omega)
      have r0 := bx.cell
      have r1 := bx.frozen
      have s1 := (bx.set (.slice (some ⟨g, 0, none⟩) fs.length cap)).cell
      have q : Below W.heap.size W wr := by
        have h1 := ((Below.refl W.heap.size W).alloc (Nat.le_refl _) (.cells #[.slice none 0 0] 31)).trans (HK3.out.mono (by omega))
        exact h1.grown hgr (by omega) (fun j hj => by simp at hj; omega)
      have q3 := hideIt (q.setCell (p := ⟨W.heap.size, 0, none⟩) (Nat.le_refl _) (.slice (some ⟨g, 0, none⟩) fs.length cap))
      clear hown hown' bx q
      go_wp2
      exact bodyPost_ret (v := .agg #[.slice (some ⟨g, 0, none⟩) fs.length cap]) (by simp [results, Try.results42, go_sem, s1]) rfl ⟨g, cap, rfl, own_mono HO.out (by omega), q3.out⟩
end Go.Proofs.Ytibcdpnodikpiai
