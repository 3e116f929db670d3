/- The specification's TourOf, where there is no ring. The specification's walk where it meets a ring. The specification's TourOf where there is a ring. The specification's ForestAt, where the graph is right. The specification's GraphOf. The specification's GraphOk and HasEdge. -/
import Derived.Test.YtpfkfbmghddepaaGreatKSWalk
import Derived.Test.YtpfkfbmghddepaaGreatKLk7
import Derived.Test.YtpfkfbmghddepaaGreatKILb9
import Derived.Test.YtpfkfbmghddepaaGreatKMem6
import Derived.Deep.AppendLies
import Derived.Deep.RegionLaw
import Derived.Deep.RegionHeld3
import Derived.Test.YtpfkfbmghddepaaGreatKWb9
import Derived.Test.YtpfkfbmghddepaaGreatKLd9
namespace Go.Proofs.YtpfkfbmghddepaaGreat
open Go.RowKit

theorem info4b : (Tryz.prog.info? 4).map (fun i => (i.zero, i.size, i.bytes)) = some (some (.bool false), 1, 1) := by kernel_rfl
theorem arr_made (w : World) (n : Nat) : Arr (w.alloc (.cells (madeCells #[.bool false] n) 4)) w.heap.size n [] := by
  have hb : (w.alloc (.cells (madeCells #[.bool false] n) 4)).heap[w.heap.size]? = some (.cells (madeCells #[.bool false] n) 4 (0, 0)) := heap_alloc_new w _
  refine ⟨fun j hj => ?_, fun j => frozen_of_row _ _ j _ _ hb, by simp⟩
  rw [cell_of_row _ _ j _ _ _ hb]
  simp [madeCells, hj, Nat.mod_one]
set_option maxRecDepth 100000 in
set_option maxHeartbeats 4000000 in
theorem sTourOf_any (es : List EdgeV) (n ne r : Nat) (a : Option Addr) (c : Nat) (t sn : List Int) (hn0 : 1 ≤ n) (hn : n ≤ 12) (hne : ne ≤ 1000) (hr : r < n) (hok : ∀ e ∈ es, eB (n : Int) e = true) (hwk : wk es n n (r : Int) (-1) [] = some (t, sn)) (htl : t.length ≤ 1000) (w : World) (h : Es w w.heap.size a ne es) :
    Calls Tryz.prog 148 #[.int .i64 (n : Int), .slice a ne c, .int .i64 (r : Int)] w fun e w' => ∃ a' m c', e = .returned (.tuple #[.slice a' m c', .bool true]) ∧ w'.ownsRow w.heap.size 3 1 (.slice a' m c') m (ic t) ∧ Below w.heap.size w w' := by
  obtain ⟨i0, hi, hz0, hz1, hz2⟩ := info_parts info4b
  have HM : Hid (∀ u : World, (Instr.makeSlice 219 (.int .i64 (n : Int)) (.int .i64 (n : Int))).run Tryz.prog u =
      .ok (.slice (some ⟨u.heap.size, 0, none⟩) n n) (u.alloc (.cells (madeCells #[.bool false] n) 4))) := fun u => by
    have h := run_make (P := Tryz.prog) u 219 4 i0 _ Tryz.underlying219 hi hz0 .i64 .i64 (n : Int) (n : Int) (by omega) (by omega) (by rw [hz2]; omega) (by omega)
    rw [Int.toNat_natCast] at h
    simpa [hz1, Value.cells] using h
  have HE := hideIt h
  have HOk := hideIt hok
  have hlen := h.1
  have HI1 := l01In_any (n : Int) 1 12 w
  rw [decide_eq_true (by omega)] at HI1
  have HI1 := hideIt HI1
  have HI2 := l01In_any (r : Int) 0 ((n : Int) - 1) w
  rw [decide_eq_true (by omega)] at HI2
  have HI2 := hideIt HI2
  have HWk : Hid (∀ u, Below w.heap.size w u → Calls Tryz.prog 193 #[.int .i64 (n : Int), .slice a ne c, .int .i64 (r : Int), .int .i64 (-1), .slice (some ⟨u.heap.size, 0, none⟩) n n] (u.alloc (.cells (madeCells #[.bool false] n) 4)) fun e w' => ∃ a' m c', e = .returned (.tuple #[.slice a' m c', .bool false]) ∧ w'.ownsRow w.heap.size 3 1 (.slice a' m c') m (ic t) ∧ Below w.heap.size w w') := fun u hu => by
    have hb : Below u.heap.size u (u.alloc (.cells (madeCells #[.bool false] n) 4)) := (Below.refl _ _).alloc (Nat.le_refl _) _
    refine (l06Walk_any es n ne a c u.heap.size n hn hne n r (-1) [] _ t sn hwk htl hr ((HE.out.up hu).below hb (Nat.le_refl _)) (arr_made u n)).mono ?_
    rintro e w' ⟨a', m, c', he, ho, hg, _⟩
    exact ⟨a', m, c', he, own_mono ho (by have := hu.size; simp; omega), (hu.trans (hb.mono hu.size)).grown hg (by have := hu.size; simp; omega) (fun j e => by cases e; exact hu.size)⟩
  clear h hok hwk
  go_enter Tryz.func148, Tryz.ntmps148
  go_wp2_with (first | (go_at_call 80; refine HI1.out.mono ?_; clear HI1; rintro e w1 ⟨rfl, hw⟩; have hw' := hw.symm; subst hw'; clear hw) | (go_at_call 80; refine HI2.out.mono ?_; rintro e w1 ⟨rfl, hw⟩; have hw' := hw.symm; subst hw'; clear hw))
  go_loopw [8] (fun i wr => ∃ (k : Nat), k ≤ ne ∧ i = .int .i64 (k : Int) ∧ Good w wr) (fun i _ => ne - (intOf i).toNat)
  case atStart => exact ⟨0, by omega, rfl, Good.refl _⟩
  case round =>
    obtain ⟨k, hk, rfl, hg⟩ := hrel
    by_cases hlt : k < ne
    · rcases HE.out.2 with hz | ⟨b, off, rfl, hbl, hc⟩
      · omega
      · obtain ⟨f, hf⟩ : ∃ f, es[k]? = some f := ⟨es[k]'(by omega), List.getElem?_eq_getElem (by omega)⟩
        have e0 : wr.cell? ⟨b, off + k * 2, none⟩ = some (.int .i64 f.1) := by rw [Below.cell hg hbl]; exact (hc k f hf).1
        have e1 : wr.cell? ⟨b, off + k * 2 + 1, none⟩ = some (.int .i64 f.2) := by rw [Below.cell hg hbl]; exact (hc k f hf).2
        have b1 : (0 : Int) ≤ (k : Int) := by omega
        have b2 : (k : Int) < (ne : Int) := by omega
        have HS := sEdgeOk_any (n : Int) f wr
        rw [HOk.out f (List.mem_of_getElem? hf)] at HS
        have HS := hideIt HS
        clear hc hf
        go_wp2_with (go_at_call 76; refine HS.out.mono ?_; rintro e w1 ⟨rfl, hb1⟩)
        exact ⟨⟨k + 1, by omega, by go_num, hg.up hb1⟩, by simp [intOf]; omega⟩
    · have HW := hideIt (HWk.out wr hg)
      have hmk := HM.out wr
      clear HWk
      go_wp2_with (go_at_call 193; refine HW.out.mono ?_; rintro e w4 ⟨a4, m4, c4, rfl, ho4, hb4⟩)
      go_ret2
      exact ⟨a4, m4, c4, rfl, ho4, hb4⟩
end Go.Proofs.YtpfkfbmghddepaaGreat
namespace Go.Proofs.YtpfkfbmghddepaaGreat
open Go.RowKit

/-- what was seen: each once, vertices; fuel is left; the list is not long -/
structure SkIs (n f m : Nat) (sk : List Int) : Prop where
  nodup : sk.Nodup
  rng : ∀ x ∈ sk, 0 ≤ x ∧ x < (n : Int)
  fuel : n ≤ f + sk.length
  len : m + 1 ≤ 2 * sk.length
theorem SkIs.small {n f m : Nat} {sk : List Int} (h : SkIs n f m sk) (hn : n ≤ 12) : m ≤ 24 := by
  have := nodup_le n sk h.nodup h.rng
  have := h.len
  omega
theorem wk_seen {es : List EdgeV} {n : Nat} (f : Nat) : ∀ (v fr : Int) (seen t sn : List Int), 0 ≤ v → v < (n : Int) → v ∉ seen → seen.Nodup → (∀ x ∈ seen, 0 ≤ x ∧ x < (n : Int)) → wk es n f v fr seen = some (t, sn) → sn.Nodup ∧ (∀ x ∈ sn, 0 ≤ x ∧ x < (n : Int)) ∧ t.length + 2 * seen.length + 1 ≤ 2 * sn.length := by
  induction f with
  | zero => intro v fr seen t sn _ _ _ _ _ h; simp [wk] at h
  | succ f ih =>
    intro v fr seen0 t sn h0 h1 hv hnd hrg h
    rw [wk] at h
    have key : ∀ (rem k : Nat) (out seen : List Int), rem + k = n → (seen.Nodup ∧ (∀ x ∈ seen, 0 ≤ x ∧ x < (n : Int)) ∧ out.length + 2 * seen0.length + 1 ≤ 2 * seen.length) → wkGo (wk es n f) es n v fr rem out seen = some (t, sn) → sn.Nodup ∧ (∀ x ∈ sn, 0 ≤ x ∧ x < (n : Int)) ∧ t.length + 2 * seen0.length + 1 ≤ 2 * sn.length := by
      intro rem
      induction rem with
      | zero =>
        intro k out seen hk hs h
        simp [wkGo] at h
        rw [← h.2, ← h.1]
        exact hs
      | succ rem ihr =>
        intro k out seen hk hs h
        have ek : n - (rem + 1) = k := by omega
        by_cases hc : (k : Int) = fr ∨ mkE v (k : Int) ∉ es
        · rw [wkGo_skip ek hc] at h
          exact ihr (k + 1) out seen (by omega) hs h
        · obtain ⟨hks, p, hp, hgo⟩ := wkGo_go ek (fun e => hc (.inl e)) (Classical.not_not.1 (fun e => hc (.inr e))) h
          obtain ⟨p1, p2, p3⟩ := ih (k : Int) v seen p.1 p.2 (by omega) (by omega) hks hs.1 hs.2.1 hp
          refine ihr (k + 1) _ p.2 (by omega) ⟨p1, p2, ?_⟩ hgo
          have := hs.2.2
          simp
          omega
    refine key n 0 [v] (v :: seen0) (by omega) ⟨List.nodup_cons.2 ⟨hv, hnd⟩, fun x hx => ?_, by simp; omega⟩ h
    rcases List.mem_cons.1 hx with rfl | hx
    · exact ⟨h0, h1⟩
    · exact hrg x hx
theorem SkIs.next {es : List EdgeV} {n f m k : Nat} {v : Int} {sk : List Int} (h : SkIs n f m sk) (hk : (k : Int) ∉ sk) (hkn : k < n) {p : List Int × List Int} (hp : wk es n f (k : Int) v sk = some p) : SkIs n f (m + p.1.length + 1) p.2 := by
  obtain ⟨h1, h2, h3⟩ := wk_seen f (k : Int) v sk p.1 p.2 (by omega) (by omega) hk h.nodup h.rng hp
  have := h.len
  have := h.fuel
  exact ⟨h1, h2, by omega, by omega⟩
set_option maxRecDepth 100000 in
set_option maxHeartbeats 8000000 in
theorem l06Walk_ring (es : List EdgeV) (n ne : Nat) (a : Option Addr) (c gs cs : Nat) (hn : n ≤ 12) (hne : ne ≤ 1000) (f : Nat) : ∀ (v : Nat) (fr : Int) (seen : List Int) (w : World), wk es n f (v : Int) fr seen = none → n ≤ f + seen.length → seen.Nodup → (∀ x ∈ seen, 0 ≤ x ∧ x < (n : Int)) → (v : Int) ∉ seen → v < n → Es w gs a ne es → Arr w gs n seen →
    Calls Tryz.prog 193 #[.int .i64 (n : Int), .slice a ne c, .int .i64 (v : Int), .int .i64 fr, .slice (some ⟨gs, 0, none⟩) n cs] w fun e w' => ∃ a' m c', e = .returned (.tuple #[.slice a' m c', .bool true]) ∧ w.grownBy w' (some gs) := by
  obtain ⟨i0, hi, hz0, hz1, hz2⟩ := info_parts info3i
  induction f with
  | zero =>
    intro v fr seen w _ hf hnd hrg hvs hvn
    have := nodup_le n ((v : Int) :: seen) (List.nodup_cons.2 ⟨hvs, hnd⟩) (fun x hx => by
      rcases List.mem_cons.1 hx with rfl | hx
      · exact ⟨by omega, by omega⟩
      · exact hrg x hx)
    simp at this
    omega
  | succ f ih =>
    intro v fr seen w hwk hf hnd hrg hvs hvn hes harr
    have HI0 : Hid (SkIs n f 1 ((v : Int) :: seen)) := ⟨List.nodup_cons.2 ⟨hvs, hnd⟩, fun x hx => by
      rcases List.mem_cons.1 hx with rfl | hx
      · exact ⟨by omega, by omega⟩
      · exact hrg x hx, by simp; omega, by simp; omega⟩
    clear hnd hrg hvs hf
    have IH := hideIt ih
    clear ih
    rw [wk] at hwk
    have HW := hideIt hwk
    clear hwk
    have HE := hideIt hes
    have hgl := harr.lt
    have b1 : (0 : Int) ≤ (v : Int) := by omega
    have b2 : (v : Int) < (n : Int) := by omega
    have c0 := harr.cell v hvn
    have c1 := harr.frz v
    have H0 : Hid (WSt w gs n (some ⟨w.heap.size, 0, none⟩) 1 1 [(v : Int)] ((v : Int) :: seen) ((w.setCell ⟨gs, v, none⟩ (.bool true)).alloc (.cells #[.int .i64 (v : Int)] 3))) := by
      have hsz : (w.setCell ⟨gs, v, none⟩ (.bool true)).heap.size = w.heap.size := by simp [World.setCell]
      have o1 := World.ownsRow_lit (base := w.heap.size) (e := 3) (size := 1) (w.setCell ⟨gs, v, none⟩ (.bool true)) #[.int .i64 (v : Int)] 1 (by rw [hsz]; exact Nat.le_refl _) (by unfold maxLen; omega) (by simp)
      rw [hsz] at o1
      have hb := (Below.refl _ (w.setCell ⟨gs, v, none⟩ (.bool true))).alloc (Nat.le_refl _) (.cells #[.int .i64 (v : Int)] 3)
      exact ⟨by simpa [ic] using o1, (harr.put v hvn).up hb, grown_trans (grownSet _ gs v _) (grown_of_below hb _)⟩
    clear hes harr
    go_enter Tryz.func193, Tryz.ntmps193
    go_wp2
    go_loopw [12, 13] (fun r i wr => ∃ (k m c1 : Nat) (a1 : Option Addr) (out sk : List Int), k ≤ n ∧ i = .int .i64 (k : Int) ∧ r = .slice a1 m c1 ∧ Hid (wkGo (wk es n f) es n (v : Int) fr (n - k) out sk = none) ∧ Hid (WSt w gs n a1 m c1 out sk wr) ∧ Hid (SkIs n f m sk)) (fun _ i _ => n - (intOf i).toNat)
    case atStart => exact ⟨0, 1, 1, _, [(v : Int)], (v : Int) :: seen, by omega, rfl, rfl, HW, H0, HI0⟩
    case round =>
      obtain ⟨k, m, c2, a1, out, sk, hk, rfl, rfl, HG, HS, HI⟩ := hrel
      clear H0 HW c0 c1 HI0
      have hml := HS.out.len
      have hm24 : m ≤ 24 := HI.out.small hn
      by_cases hlt : k < n
      · have b3 : (0 : Int) ≤ (k : Int) := by omega
        have b4 : (k : Int) < (n : Int) := by omega
        by_cases hvk : (v : Int) < (k : Int)
        · have d1 : decide ((v : Int) < (k : Int)) = true := decide_eq_true hvk
          have HEe : Hid (mkE (v : Int) (k : Int) = ((v : Int), (k : Int))) := by show _ = _; unfold mkE; rw [if_pos hvk]
          have hb1 : Below wr.heap.size wr (wr.alloc (.cells #[.int .i64 (v : Int), .int .i64 (k : Int)] 28)) := (Below.refl _ _).alloc (Nat.le_refl _) _
          have HS1 := hideIt (HS.out.up hb1)
          clear hb1
          obtain ⟨rem, hrem⟩ : ∃ rem, n - k = rem + 1 := ⟨n - k - 1, by omega⟩
          have hrem2 : n - (k + 1) = rem := by omega
          have hrem3 : n - (rem + 1) = k := by omega
          rw [hrem] at HG
          have Hrem := hideIt (And.intro hrem (And.intro hrem2 hrem3))
          clear hrem hrem2 hrem3
          by_cases hkf : (k : Int) = fr
          · have d2 : ((k : Int) == fr) = true := by simpa using hkf
            have HG2 : Hid (wkGo (wk es n f) es n (v : Int) fr (n - (k + 1)) out sk = none) := by show _ = _; rw [Hrem.out.2.1, ← wkGo_skip Hrem.out.2.2 (.inl hkf)]; exact HG.out
            clear HG HS hkf
            go_wp2
            exact ⟨⟨k + 1, m, c2, a1, out, sk, by omega, by go_num, rfl, HG2, HS1, HI⟩, by simp [intOf]; omega⟩
          · have d2 : ((k : Int) == fr) = false := by simpa using hkf
            have HH := hideIt (l05Has_any es ((v : Int), (k : Int)) ne a c (by omega) _ ((HE.out.grown (by omega) HS1.out.grown).mono (by have := HS1.out.grown.size; omega)))
            cases hb : hasB es ((v : Int), (k : Int)) with
            | false =>
              rw [hb] at HH
              have HG2 : Hid (wkGo (wk es n f) es n (v : Int) fr (n - (k + 1)) out sk = none) := by
                show _ = _
                rw [Hrem.out.2.1, ← wkGo_skip Hrem.out.2.2 (.inr (by rw [HEe.out]; exact of_decide_eq_false hb))]
                exact HG.out
              clear HG HS hb
              go_wp2_with (go_at_call 67; refine HH.out.mono ?_; rintro e w3 ⟨rfl, hb3⟩)
              exact ⟨⟨k + 1, m, c2, a1, out, sk, by omega, by go_num, rfl, HG2, hideIt (HS1.out.up hb3), HI⟩, by simp [intOf]; omega⟩
            | true =>
              rw [hb] at HH
              by_cases hks : (k : Int) ∈ sk
              · have HK := hideIt hks
                clear HG hb hks Hrem
                go_wp2_with (go_at_call 67; refine HH.out.mono ?_; rintro e w3 ⟨rfl, hb3⟩; refine Hid.out ?_)
                refine (show ∀ {p : Prop}, p → Hid p from fun h => h) ?_
                have HS3 := hideIt (HS1.out.up hb3)
                have e0 := HS3.out.arr.cell k hlt
                rw [decide_eq_true HK.out] at e0
                clear HS1 HH hb3
                go_wp2
                go_ret2
                exact ⟨a1, m, c2, rfl, HS3.out.grown⟩
              cases hp : wk es n f (k : Int) (v : Int) sk with
              | none =>
                have HP := hideIt hp
                have HK := hideIt hks
                clear HG hb hks Hrem hp
                go_wp2_with (go_at_call 67; refine HH.out.mono ?_; rintro e w3 ⟨rfl, hb3⟩; refine Hid.out ?_)
                refine (show ∀ {p : Prop}, p → Hid p from fun h => h) ?_
                have HS3 := hideIt (HS1.out.up hb3)
                have e0 := HS3.out.arr.cell k hlt
                rw [decide_eq_false HK.out] at e0
                have HR := hideIt (IH.out k (v : Int) sk w3 HP.out HI.out.fuel HI.out.nodup HI.out.rng HK.out hlt (HE.out.grown (by omega) HS3.out.grown) HS3.out.arr)
                clear HS1 HH hb3
                go_wp2_with (go_at_call 193; refine HR.out.mono ?_; rintro e w4 ⟨a4, m4, c4, rfl, hg4⟩)
                go_ret2
                exact ⟨a1, m, c2, rfl, grown_trans HS3.out.grown hg4⟩
              | some p =>
              have hgo : wkGo (wk es n f) es n (v : Int) fr (n - (k + 1)) (out ++ p.1 ++ [(v : Int)]) p.2 = none := by
                have h7 := HG.out
                rw [wkGo, Hrem.out.2.2, if_neg (by rintro (h8 | h8); exact hkf h8; exact h8 (by rw [HEe.out]; exact of_decide_eq_true hb)), if_neg hks, hp] at h7
                rw [Hrem.out.2.1]
                exact h7
              have HI2 := hideIt (HI.out.next hks hlt hp)
              have hln := HI2.out.small hn
              have hp0 := wk_head hp
              have HG2 : Hid (wkGo (wk es n f) es n (v : Int) fr (n - (k + 1)) (out ++ p.1 ++ [(v : Int)]) p.2 = none) := hgo
              have HP := hideIt hp
              have HK := hideIt hks
              clear HG HS hb hp hgo hks Hrem
              go_wp2_with (go_at_call 67; refine HH.out.mono ?_; rintro e w3 ⟨rfl, hb3⟩; refine Hid.out ?_)
              refine (show ∀ {p : Prop}, p → Hid p from fun h => h) ?_
              have HS3 := hideIt (HS1.out.up hb3)
              have e0 := HS3.out.arr.cell k hlt
              rw [decide_eq_false HK.out] at e0
              have HR := hideIt (l06Walk_any es n ne a c gs cs hn hne f k (v : Int) sk w3 p.1 p.2 HP.out (by omega) hlt (HE.out.grown (by omega) HS3.out.grown) HS3.out.arr)
              clear HS1 HH hb3
              go_wp2_with (go_at_call 193; refine HR.out.mono ?_; rintro e w4 ⟨a4, m4, c4, rfl, ho4, hg4, har4⟩; refine Hid.out ?_)
              refine (show ∀ {p : Prop}, p → Hid p from fun h => h) ?_
              have HS4 := hideIt (HS3.out.turned hgl hg4 har4)
              have I4 := Is_of_own ho4
              have hm4 : p.1.length = m4 := I4.1
              obtain ⟨g4, c4', hform, _⟩ := ho4.form (by omega)
              simp at hform
              obtain ⟨rfl, rfl⟩ := hform
              have HN4 := hideIt I4.news
              have HN4l : Hid ((ic p.1).length = m4 * 1) := by show _ = _; rw [ic_len]; omega
              have z4 := HS4.out.grown.size
              clear HS3 HR ho4 hg4 har4 e0 I4
              go_wp2_with (at_builtin; refine wpList_append_own _ rfl _ _ 44 rfl w.heap.size 3 i0 _ 1 8 Tryz.underlying44 hi hz0 hz1 hz2 rfl (by decide) _ _ _ rfl HS4.out.own ⟨g4, 0, none⟩ m4 c4 (ic p.1) rfl HN4l.out HN4.out ic_one (by unfold maxLen; omega) (by omega) z4 ?_)
              intro v5 w5 hown5 hg5 _
              obtain ⟨a5, c5, rfl, S5⟩ := HS4.out.app hgl hown5 hg5
              clear hown5 hg5 HS4 HN4 HN4l
              refine Hid.out ?_
              refine (show ∀ {p : Prop}, p → Hid p from fun h => h) ?_
              have HS5 := hideIt (S5.up ((Below.refl _ w5).alloc (Nat.le_refl _) (.cells #[.int .i64 (v : Int)] 3)))
              have z5 := HS5.out.grown.size
              simp at z5
              clear S5
              go_wp2_with (at_builtin; refine wpList_append_own _ rfl _ _ 44 rfl w.heap.size 3 i0 _ 1 8 Tryz.underlying44 hi hz0 hz1 hz2 rfl (by decide) _ _ _ rfl HS5.out.own ⟨w5.heap.size, 0, none⟩ 1 1 [.int .i64 (v : Int)] rfl rfl (newsI w5 (v : Int)) (by intro u hu; simp at hu; subst hu; rfl) (by unfold maxLen; omega) (by omega) (by simp; omega) ?_)
              intro v6 w6 hown6 hg6 _
              obtain ⟨a6, c6, rfl, S6⟩ := HS5.out.app hgl (xs := [(v : Int)]) hown6 hg6
              have HS6 := hideIt S6
              clear hown6 hg6 HS5 S6
              go_wp2
              exact ⟨⟨k + 1, _, c6, a6, _, p.2, by omega, by go_num, rfl, HG2, HS6, by rw [← hm4]; exact HI2⟩, by simp [intOf]; omega⟩
        · have d1 : decide ((v : Int) < (k : Int)) = false := decide_eq_false hvk
          have HEe : Hid (mkE (v : Int) (k : Int) = ((k : Int), (v : Int))) := by show _ = _; unfold mkE; rw [if_neg hvk]
          have hb1 : Below wr.heap.size wr (wr.alloc (.cells #[.int .i64 (k : Int), .int .i64 (v : Int)] 28)) := (Below.refl _ _).alloc (Nat.le_refl _) _
          have HS1 := hideIt (HS.out.up hb1)
          clear hb1
          obtain ⟨rem, hrem⟩ : ∃ rem, n - k = rem + 1 := ⟨n - k - 1, by omega⟩
          have hrem2 : n - (k + 1) = rem := by omega
          have hrem3 : n - (rem + 1) = k := by omega
          rw [hrem] at HG
          have Hrem := hideIt (And.intro hrem (And.intro hrem2 hrem3))
          clear hrem hrem2 hrem3
          by_cases hkf : (k : Int) = fr
          · have d2 : ((k : Int) == fr) = true := by simpa using hkf
            have HG2 : Hid (wkGo (wk es n f) es n (v : Int) fr (n - (k + 1)) out sk = none) := by show _ = _; rw [Hrem.out.2.1, ← wkGo_skip Hrem.out.2.2 (.inl hkf)]; exact HG.out
            clear HG HS hkf
            go_wp2
            exact ⟨⟨k + 1, m, c2, a1, out, sk, by omega, by go_num, rfl, HG2, HS1, HI⟩, by simp [intOf]; omega⟩
          · have d2 : ((k : Int) == fr) = false := by simpa using hkf
            have HH := hideIt (l05Has_any es ((k : Int), (v : Int)) ne a c (by omega) _ ((HE.out.grown (by omega) HS1.out.grown).mono (by have := HS1.out.grown.size; omega)))
            cases hb : hasB es ((k : Int), (v : Int)) with
            | false =>
              rw [hb] at HH
              have HG2 : Hid (wkGo (wk es n f) es n (v : Int) fr (n - (k + 1)) out sk = none) := by
                show _ = _
                rw [Hrem.out.2.1, ← wkGo_skip Hrem.out.2.2 (.inr (by rw [HEe.out]; exact of_decide_eq_false hb))]
                exact HG.out
              clear HG HS hb
              go_wp2_with (go_at_call 67; refine HH.out.mono ?_; rintro e w3 ⟨rfl, hb3⟩)
              exact ⟨⟨k + 1, m, c2, a1, out, sk, by omega, by go_num, rfl, HG2, hideIt (HS1.out.up hb3), HI⟩, by simp [intOf]; omega⟩
            | true =>
              rw [hb] at HH
              by_cases hks : (k : Int) ∈ sk
              · have HK := hideIt hks
                clear HG hb hks Hrem
                go_wp2_with (go_at_call 67; refine HH.out.mono ?_; rintro e w3 ⟨rfl, hb3⟩; refine Hid.out ?_)
                refine (show ∀ {p : Prop}, p → Hid p from fun h => h) ?_
                have HS3 := hideIt (HS1.out.up hb3)
                have e0 := HS3.out.arr.cell k hlt
                rw [decide_eq_true HK.out] at e0
                clear HS1 HH hb3
                go_wp2
                go_ret2
                exact ⟨a1, m, c2, rfl, HS3.out.grown⟩
              cases hp : wk es n f (k : Int) (v : Int) sk with
              | none =>
                have HP := hideIt hp
                have HK := hideIt hks
                clear HG hb hks Hrem hp
                go_wp2_with (go_at_call 67; refine HH.out.mono ?_; rintro e w3 ⟨rfl, hb3⟩; refine Hid.out ?_)
                refine (show ∀ {p : Prop}, p → Hid p from fun h => h) ?_
                have HS3 := hideIt (HS1.out.up hb3)
                have e0 := HS3.out.arr.cell k hlt
                rw [decide_eq_false HK.out] at e0
                have HR := hideIt (IH.out k (v : Int) sk w3 HP.out HI.out.fuel HI.out.nodup HI.out.rng HK.out hlt (HE.out.grown (by omega) HS3.out.grown) HS3.out.arr)
                clear HS1 HH hb3
                go_wp2_with (go_at_call 193; refine HR.out.mono ?_; rintro e w4 ⟨a4, m4, c4, rfl, hg4⟩)
                go_ret2
                exact ⟨a1, m, c2, rfl, grown_trans HS3.out.grown hg4⟩
              | some p =>
              have hgo : wkGo (wk es n f) es n (v : Int) fr (n - (k + 1)) (out ++ p.1 ++ [(v : Int)]) p.2 = none := by
                have h7 := HG.out
                rw [wkGo, Hrem.out.2.2, if_neg (by rintro (h8 | h8); exact hkf h8; exact h8 (by rw [HEe.out]; exact of_decide_eq_true hb)), if_neg hks, hp] at h7
                rw [Hrem.out.2.1]
                exact h7
              have HI2 := hideIt (HI.out.next hks hlt hp)
              have hln := HI2.out.small hn
              have hp0 := wk_head hp
              have HG2 : Hid (wkGo (wk es n f) es n (v : Int) fr (n - (k + 1)) (out ++ p.1 ++ [(v : Int)]) p.2 = none) := hgo
              have HP := hideIt hp
              have HK := hideIt hks
              clear HG HS hb hp hgo hks Hrem
              go_wp2_with (go_at_call 67; refine HH.out.mono ?_; rintro e w3 ⟨rfl, hb3⟩; refine Hid.out ?_)
              refine (show ∀ {p : Prop}, p → Hid p from fun h => h) ?_
              have HS3 := hideIt (HS1.out.up hb3)
              have e0 := HS3.out.arr.cell k hlt
              rw [decide_eq_false HK.out] at e0
              have HR := hideIt (l06Walk_any es n ne a c gs cs hn hne f k (v : Int) sk w3 p.1 p.2 HP.out (by omega) hlt (HE.out.grown (by omega) HS3.out.grown) HS3.out.arr)
              clear HS1 HH hb3
              go_wp2_with (go_at_call 193; refine HR.out.mono ?_; rintro e w4 ⟨a4, m4, c4, rfl, ho4, hg4, har4⟩; refine Hid.out ?_)
              refine (show ∀ {p : Prop}, p → Hid p from fun h => h) ?_
              have HS4 := hideIt (HS3.out.turned hgl hg4 har4)
              have I4 := Is_of_own ho4
              have hm4 : p.1.length = m4 := I4.1
              obtain ⟨g4, c4', hform, _⟩ := ho4.form (by omega)
              simp at hform
              obtain ⟨rfl, rfl⟩ := hform
              have HN4 := hideIt I4.news
              have HN4l : Hid ((ic p.1).length = m4 * 1) := by show _ = _; rw [ic_len]; omega
              have z4 := HS4.out.grown.size
              clear HS3 HR ho4 hg4 har4 e0 I4
              go_wp2_with (at_builtin; refine wpList_append_own _ rfl _ _ 44 rfl w.heap.size 3 i0 _ 1 8 Tryz.underlying44 hi hz0 hz1 hz2 rfl (by decide) _ _ _ rfl HS4.out.own ⟨g4, 0, none⟩ m4 c4 (ic p.1) rfl HN4l.out HN4.out ic_one (by unfold maxLen; omega) (by omega) z4 ?_)
              intro v5 w5 hown5 hg5 _
              obtain ⟨a5, c5, rfl, S5⟩ := HS4.out.app hgl hown5 hg5
              clear hown5 hg5 HS4 HN4 HN4l
              refine Hid.out ?_
              refine (show ∀ {p : Prop}, p → Hid p from fun h => h) ?_
              have HS5 := hideIt (S5.up ((Below.refl _ w5).alloc (Nat.le_refl _) (.cells #[.int .i64 (v : Int)] 3)))
              have z5 := HS5.out.grown.size
              simp at z5
              clear S5
              go_wp2_with (at_builtin; refine wpList_append_own _ rfl _ _ 44 rfl w.heap.size 3 i0 _ 1 8 Tryz.underlying44 hi hz0 hz1 hz2 rfl (by decide) _ _ _ rfl HS5.out.own ⟨w5.heap.size, 0, none⟩ 1 1 [.int .i64 (v : Int)] rfl rfl (newsI w5 (v : Int)) (by intro u hu; simp at hu; subst hu; rfl) (by unfold maxLen; omega) (by omega) (by simp; omega) ?_)
              intro v6 w6 hown6 hg6 _
              obtain ⟨a6, c6, rfl, S6⟩ := HS5.out.app hgl (xs := [(v : Int)]) hown6 hg6
              have HS6 := hideIt S6
              clear hown6 hg6 HS5 S6
              go_wp2
              exact ⟨⟨k + 1, _, c6, a6, _, p.2, by omega, by go_num, rfl, HG2, HS6, by rw [← hm4]; exact HI2⟩, by simp [intOf]; omega⟩
      · obtain rfl : k = n := by omega
        have := HG.out
        rw [Nat.sub_self, wkGo] at this
        cases this
end Go.Proofs.YtpfkfbmghddepaaGreat
namespace Go.Proofs.YtpfkfbmghddepaaGreat
open Go.RowKit

set_option maxRecDepth 100000 in
set_option maxHeartbeats 4000000 in
theorem sTourOf_ring (es : List EdgeV) (n ne r : Nat) (a : Option Addr) (c : Nat) (hn0 : 1 ≤ n) (hn : n ≤ 12) (hne : ne ≤ 1000) (hr : r < n) (hok : ∀ e ∈ es, eB (n : Int) e = true) (hwk : wk es n n (r : Int) (-1) [] = none) (w : World) (h : Es w w.heap.size a ne es) :
    Calls Tryz.prog 148 #[.int .i64 (n : Int), .slice a ne c, .int .i64 (r : Int)] w fun e w' => ∃ a' c', e = .returned (.tuple #[.slice a' 0 c', .bool false]) ∧ Below w.heap.size w w' := by
  obtain ⟨i0, hi, hz0, hz1, hz2⟩ := info_parts info4b
  have HM : Hid (∀ u : World, (Instr.makeSlice 219 (.int .i64 (n : Int)) (.int .i64 (n : Int))).run Tryz.prog u =
      .ok (.slice (some ⟨u.heap.size, 0, none⟩) n n) (u.alloc (.cells (madeCells #[.bool false] n) 4))) := fun u => by
    have h := run_make (P := Tryz.prog) u 219 4 i0 _ Tryz.underlying219 hi hz0 .i64 .i64 (n : Int) (n : Int) (by omega) (by omega) (by rw [hz2]; omega) (by omega)
    rw [Int.toNat_natCast] at h
    simpa [hz1, Value.cells] using h
  have HE := hideIt h
  have HOk := hideIt hok
  have hlen := h.1
  have HI1 := l01In_any (n : Int) 1 12 w
  rw [decide_eq_true (by omega)] at HI1
  have HI1 := hideIt HI1
  have HI2 := l01In_any (r : Int) 0 ((n : Int) - 1) w
  rw [decide_eq_true (by omega)] at HI2
  have HI2 := hideIt HI2
  have HWk : Hid (∀ u, Below w.heap.size w u → Calls Tryz.prog 193 #[.int .i64 (n : Int), .slice a ne c, .int .i64 (r : Int), .int .i64 (-1), .slice (some ⟨u.heap.size, 0, none⟩) n n] (u.alloc (.cells (madeCells #[.bool false] n) 4)) fun e w' => ∃ a' m c', e = .returned (.tuple #[.slice a' m c', .bool true]) ∧ Below w.heap.size w w') := fun u hu => by
    have hb : Below u.heap.size u (u.alloc (.cells (madeCells #[.bool false] n) 4)) := (Below.refl _ _).alloc (Nat.le_refl _) _
    refine (l06Walk_ring es n ne a c u.heap.size n hn hne n r (-1) [] _ hwk (by simp) (by simp) (by simp) (by simp) hr ((HE.out.up hu).below hb (Nat.le_refl _)) (arr_made u n)).mono ?_
    rintro e w' ⟨a', m, c', he, hg⟩
    exact ⟨a', m, c', he, (hu.trans (hb.mono hu.size)).grown hg (by have := hu.size; simp; omega) (fun j e => by cases e; exact hu.size)⟩
  clear h hok hwk
  go_enter Tryz.func148, Tryz.ntmps148
  go_wp2_with (first | (go_at_call 80; refine HI1.out.mono ?_; clear HI1; rintro e w1 ⟨rfl, hw⟩; have hw' := hw.symm; subst hw'; clear hw) | (go_at_call 80; refine HI2.out.mono ?_; rintro e w1 ⟨rfl, hw⟩; have hw' := hw.symm; subst hw'; clear hw))
  go_loopw [8] (fun i wr => ∃ (k : Nat), k ≤ ne ∧ i = .int .i64 (k : Int) ∧ Good w wr) (fun i _ => ne - (intOf i).toNat)
  case atStart => exact ⟨0, by omega, rfl, Good.refl _⟩
  case round =>
    obtain ⟨k, hk, rfl, hg⟩ := hrel
    by_cases hlt : k < ne
    · rcases HE.out.2 with hz | ⟨b, off, rfl, hbl, hc⟩
      · omega
      · obtain ⟨f, hf⟩ : ∃ f, es[k]? = some f := ⟨es[k]'(by omega), List.getElem?_eq_getElem (by omega)⟩
        have e0 : wr.cell? ⟨b, off + k * 2, none⟩ = some (.int .i64 f.1) := by rw [Below.cell hg hbl]; exact (hc k f hf).1
        have e1 : wr.cell? ⟨b, off + k * 2 + 1, none⟩ = some (.int .i64 f.2) := by rw [Below.cell hg hbl]; exact (hc k f hf).2
        have b1 : (0 : Int) ≤ (k : Int) := by omega
        have b2 : (k : Int) < (ne : Int) := by omega
        have HS := sEdgeOk_any (n : Int) f wr
        rw [HOk.out f (List.mem_of_getElem? hf)] at HS
        have HS := hideIt HS
        clear hc hf
        go_wp2_with (go_at_call 76; refine HS.out.mono ?_; rintro e w1 ⟨rfl, hb1⟩)
        exact ⟨⟨k + 1, by omega, by go_num, hg.up hb1⟩, by simp [intOf]; omega⟩
    · have HW := hideIt (HWk.out wr hg)
      have hmk := HM.out wr
      clear HWk
      go_wp2_with (go_at_call 193; refine HW.out.mono ?_; rintro e w4 ⟨a4, m4, c4, rfl, hb4⟩)
      go_ret2
      exact ⟨_, _, rfl, hb4.alloc hb4.size _⟩
end Go.Proofs.YtpfkfbmghddepaaGreat
namespace Go.Proofs.YtpfkfbmghddepaaGreat
open Go.RowKit

/-- behind the web's box, the answer's and the forest's -/
def wf3 (w : World) (N : Int) (a : Option Addr) (n c : Nat) : World := (wf2 w N a n c).alloc (.cells #[.int .i64 N, .slice none 0 0] 57)
theorem wf3_size (w : World) (N : Int) (a : Option Addr) (n c : Nat) : (wf3 w N a n c).heap.size = w.heap.size + 3 := by simp [wf3, wf2, wW]
theorem wf3_good (w : World) (N : Int) (a : Option Addr) (n c : Nat) : Good w (wf3 w N a n c) := (wf2_good w N a n c).alloc _
/-- what lies below w2: the boxes, the edges -/
structure LowS (w : World) (N : Int) (a : Option Addr) (n c : Nat) (w2 : World) (v : Value) (u : World) : Prop where
  box : Box7 u (w.heap.size + 2) 57 (.int .i64 N) v
  out : Box7 u (w.heap.size + 1) 57 (.int .i64 0) (.slice none 0 0)
  inn : Box7 u w.heap.size 26 (.int .i64 N) (.slice a n c)
  old : Below w.heap.size w u
  es : ∀ k, w.heap.size + 3 ≤ k → k < w2.heap.size → u.heap[k]? = w2.heap[k]?
  size : w2.heap.size ≤ u.heap.size
theorem LowS.start {w : World} {N : Int} {a : Option Addr} {n c : Nat} {w2 : World} (h : Below (w.heap.size + 3) (wf3 w N a n c) w2) : LowS w N a n c w2 (.slice none 0 0) w2 := by
  have b1 : Box7 (wf3 w N a n c) w.heap.size 26 (.int .i64 N) (.slice a n c) := ((Box7.new w _ _ _ _ rfl).alloc _).alloc _
  have b2 : Box7 (wf3 w N a n c) (w.heap.size + 1) 57 (.int .i64 0) (.slice none 0 0) := (Box7.new _ _ _ _ _ (by simp [wW])).alloc _
  have b3 : Box7 (wf3 w N a n c) (w.heap.size + 2) 57 (.int .i64 N) (.slice none 0 0) := Box7.new _ _ _ _ _ (by simp [wf2, wW])
  exact ⟨b3.below h (by omega), b2.below h (by omega), b1.below h (by omega), (wf3_good w N a n c).trans (h.mono (by omega)), fun _ _ _ => rfl, Nat.le_refl _⟩
theorem LowS.up {w : World} {N : Int} {a : Option Addr} {n c : Nat} {w2 : World} {v : Value} {u u' : World} (h : LowS w N a n c w2 v u) (hw2 : w.heap.size + 3 ≤ w2.heap.size) (hb : Below w2.heap.size u u') : LowS w N a n c w2 v u' :=
  ⟨h.box.below hb (by omega), h.out.below hb (by omega), h.inn.below hb (by omega), h.old.trans (hb.mono (by omega)), fun k h1 h2 => by rw [hb.block k h2]; exact h.es k h1 h2, Nat.le_trans h.size hb.size⟩
theorem LowS.set {w : World} {N : Int} {a : Option Addr} {n c : Nat} {w2 : World} {v : Value} {u : World} (h : LowS w N a n c w2 v u) (x : Value) : LowS w N a n c w2 x (u.setCell ⟨w.heap.size + 2, 1, none⟩ x) :=
  ⟨h.box.set1 x, h.out.setOther x (by omega), h.inn.setOther x (by omega), h.old.setCell (p := ⟨w.heap.size + 2, 1, none⟩) (by show _ ≤ w.heap.size + 2; omega) x, fun k h1 h2 => by rw [heap_setCell_other u ⟨w.heap.size + 2, 1, none⟩ k x (by show k ≠ w.heap.size + 2; omega)]; exact h.es k h1 h2, by have := h.size; simpa [World.setCell] using this⟩
/-- the list of edges is still there -/
theorem LowS.edges {w : World} {N : Int} {a : Option Addr} {n c : Nat} {w2 : World} {v : Value} {u : World} (h : LowS w N a n c w2 v u) {g mE cE : Nat} {es : List EdgeV}
    (he : w2.ownsRow (w.heap.size + 3) 28 2 (.slice (some ⟨g, 0, none⟩) mE cE) mE (ecells es)) : Es u u.heap.size (some ⟨g, 0, none⟩) mE es := by
  have h2 : u.ownsRow (w.heap.size + 3) 28 2 (.slice (some ⟨g, 0, none⟩) mE cE) mE (ecells es) := by
    refine ⟨he.1, ?_⟩
    rcases he.2 with ⟨h3, _⟩ | ⟨g2, cap, cur, hv, hg, hcur, hrest⟩
    · simp at h3
    · refine .inr ⟨g2, cap, cur, hv, hg, ?_, hrest⟩
      have hgl := he.lt g2 (by rw [hv]; rfl)
      rw [h.es g2 hgl.1 hgl.2]
      exact hcur
  exact Es_of_own h2
/-- rows of other sorts do not meet -/
theorem own_kind {u : World} {lo e s n lo' e' s' n' : Nat} {v v' : Value} {xs xs' : List Value} (h : u.ownsRow lo e s v n xs) (h' : u.ownsRow lo' e' s' v' n' xs') (hne : e ≠ e') : v.ownBlock = none ∨ v.ownBlock ≠ v'.ownBlock := by
  rcases h.2 with ⟨rfl, _⟩ | ⟨g, cap, cur, rfl, hb, hg, rest⟩
  · exact .inl rfl
  · refine .inr fun e1 => ?_
    rcases h'.2 with ⟨rfl, _⟩ | ⟨g', cap', cur', rfl, hb', hg', rest'⟩
    · simp [Value.ownBlock] at e1
    · simp [Value.ownBlock] at e1
      subst e1
      rw [hg] at hg'
      simp at hg'
      exact hne hg'.2
theorem FB.other {u v : World} {lo : Nat} {a : Option Addr} {n c : Nat} {R : List Rw} (h : FB u lo u.heap.size a n c R) {lo' e' s' n' : Nat} {x' : Value} {xs' : List Value} (hd : u.ownsRow lo' e' s' x' n' xs') (hty : 44 ≠ e') (hap : ∀ r ∈ R, x'.ownBlock ≠ some r.g) (hg : u.grownBy v x'.ownBlock) : FB v lo v.heap.size a n c R := by
  have ho := World.ownsRow.kept h.own hg (own_kind h.own hd hty)
  refine ⟨h.len, ho, fun g hg2 => (ho.lt g hg2).2, Nat.le_refl _, fun r hr => ?_, h.nod⟩
  have h1 := h.ins r hr
  have h2 := h1.1.grown hg (hap r hr)
  exact ⟨h2, h1.2.1, h2.lt⟩
theorem own_grown {u u' : World} {lo : Nat} {o : Obj} {x : Value} {e s n : Nat} {xs : List Value} (h : u.ownsRow lo e s x n xs) (hg : (u.alloc o).grownBy u' x.ownBlock) (hl : lo ≤ u.heap.size) : Below lo u u' :=
  ((Below.refl lo u).alloc hl o).grown hg (by simp; omega) (fun j hj => (h.lt j hj).1)
theorem own_grown' {u u' : World} {lo : Nat} {x : Value} {e s n : Nat} {xs : List Value} (h : u.ownsRow lo e s x n xs) (hg : u.grownBy u' x.ownBlock) (hl : lo ≤ u.heap.size) : Below lo u u' :=
  (Below.refl lo u).grown hg hl (fun j hj => (h.lt j hj).1)
theorem flat_snoc (ts : List (List Int)) (t : List Int) : (ts ++ [t]).flatten = ts.flatten ++ t := by simp
theorem flat_len {ts : List (List Int)} (h : ∀ t ∈ ts, t.length ≤ 23) : ts.flatten.length ≤ 23 * ts.length := by
  induction ts with
  | nil => simp
  | cons t ts ih =>
    have h1 := h t (by simp)
    have h2 := ih fun s hs => h s (by simp [hs])
    simp only [List.flatten_cons, List.length_append, List.length_cons]
    omega
theorem ic_app (a b : List Int) : ic (a ++ b) = ic a ++ ic b := by simp [ic]

set_option maxRecDepth 100000 in
set_option maxHeartbeats 4000000 in
theorem sForestAt_any (nn : Nat) (ls : List Ld) (lv : Int) (n : Nat) (a : Option Addr) (c : Nat) (hn1 : 1 ≤ nn) (hn12 : nn ≤ 12) (hG : gB (nn : Int) (gE ls) = true) (w : World) (h : Ls w w.heap.size a n ls) :
    Calls Tryz.prog 81 #[.agg #[.int .i64 (nn : Int), .slice a n c], .int .i64 lv] w (FAn9 w (nn : Int) (ftK (fE ls lv) nn nn)) := by
  obtain ⟨i0, hi, hz0, hz1, hz2⟩ := info_parts infoIT9
  obtain ⟨j0, hj, hy0, hy1, hy2⟩ := info_parts info3i
  have hlen := h.1
  have h66 : n ≤ 66 := by have := (gB_chk hG).2.2; rw [gE_len] at this; omega
  have HE := hideIt (fE_ends hG lv)
  have HI1 := l01In_any (nn : Int) 1 12
  have HIn : Hid (∀ u, Calls Tryz.prog 80 #[.int .i64 (nn : Int), .int .i64 1, .int .i64 12] u fun e w' => e = .returned (.bool true) ∧ w' = u) := fun u => by
    have := HI1 u
    rw [decide_eq_true (by omega)] at this
    exact this
  have HT := hideIt (l08Tree_any (nn : Int) ls lv n a c (by omega) _ (h.up (wf3_good w (nn : Int) a n c)))
  have HTo : Hid (∀ (g m c' k : Nat) (t sn : List Int) (u : World), k < nn → wk (fE ls lv) nn nn (k : Int) (-1) [] = some (t, sn) → t.length ≤ 23 → Es u u.heap.size (some ⟨g, 0, none⟩) m (fE ls lv) → Calls Tryz.prog 148 #[.int .i64 (nn : Int), .slice (some ⟨g, 0, none⟩) m c', .int .i64 (k : Int)] u fun e w' => ∃ a' m c', e = .returned (.tuple #[.slice a' m c', .bool true]) ∧ w'.ownsRow u.heap.size 3 1 (.slice a' m c') m (ic t) ∧ Below u.heap.size u w') := fun g m c' k t sn u hk hw htl hu =>
    sTourOf_any (fE ls lv) nn m k (some ⟨g, 0, none⟩) c' t sn hn1 hn12 (by have := hu.1; have := fE_len ls lv; omega) hk (fun e he => gB_eB hG (fE_g he)) hw (by omega) u hu
  have HTr : Hid (∀ (g m c' k : Nat) (u : World), k < nn → wk (fE ls lv) nn nn (k : Int) (-1) [] = none → Es u u.heap.size (some ⟨g, 0, none⟩) m (fE ls lv) → Calls Tryz.prog 148 #[.int .i64 (nn : Int), .slice (some ⟨g, 0, none⟩) m c', .int .i64 (k : Int)] u fun e w' => ∃ a' c', e = .returned (.tuple #[.slice a' 0 c', .bool false]) ∧ Below u.heap.size u w') := fun g m c' k u hk hw hu =>
    sTourOf_ring (fE ls lv) nn m k (some ⟨g, 0, none⟩) c' hn1 hn12 (by have := hu.1; have := fE_len ls lv; omega) hk (fun e he => gB_eB hG (fE_g he)) hw u hu
  clear h hG HI1
  go_enter Tryz.func81, Tryz.ntmps81
  go_wp2_with (go_at_call 147; refine HT.out.mono ?_; rintro e w2 ⟨g, mE, cE, rfl, hoE, hb2⟩; refine Hid.out ?_)
  refine (show ∀ {p : Prop}, p → Hid p from fun h => h) ?_
  rw [wf3_size] at hoE hb2
  have z2 := hb2.size
  rw [wf3_size] at z2
  have hL0 := LowS.start hb2
  have HOE := hideIt hoE
  have k0 := hL0.inn.cell0
  have HL0 := hideIt (hL0.up z2 ((Below.refl _ _).alloc (Nat.le_refl _) (.cells #[] 3)))
  have HD0 : Hid ((w2.alloc (.cells #[] 3)).ownsRow w2.heap.size 3 1 (.slice (some ⟨w2.heap.size, 0, none⟩) 0 0) 0 (ic [])) := by
    show World.ownsRow _ _ _ _ _ _ _
    have h0 := World.ownsRow_lit (base := w2.heap.size) (e := 3) (size := 1) w2 #[] 0 (Nat.le_refl _) (by unfold maxLen; omega) (by simp)
    simpa [ic] using h0
  have HF0 : Hid (FB (w2.alloc (.cells #[] 3)) w2.heap.size (w2.alloc (.cells #[] 3)).heap.size none 0 0 []) := FB.nil _ _
  clear HT hoE hb2 hL0
  go_wp2_with (go_at_call 80; refine (HIn.out _).mono ?_; rintro e w1 ⟨rfl, hw⟩; have hw' := hw.symm; subst hw'; clear hw)
  go_loopw [8, 9] (fun d i wr => ∃ (k m c' md cd : Nat) (a' ad : Option Addr) (R : List Rw), k ≤ nn ∧ m ≤ k ∧ md ≤ 23 * k ∧ i = .int .i64 (k : Int) ∧ d = .slice ad md cd ∧ Hid (ftK (fE ls lv) nn k = some (rts R)) ∧ LowS w (nn : Int) a n c w2 (.slice a' m c') wr ∧ FB wr w2.heap.size wr.heap.size a' m c' R ∧ wr.ownsRow w2.heap.size 3 1 (.slice ad md cd) md (ic (rts R).flatten) ∧ Hid (∀ x ∈ R, (Value.slice ad md cd).ownBlock ≠ some x.g)) (fun _ i _ => nn - (intOf i).toNat)
  case atStart => exact ⟨0, 0, 0, 0, 0, none, _, [], by omega, by omega, by omega, rfl, rfl, rfl, HL0.out, HF0.out, HD0.out, fun x hx => by simp at hx⟩
  case round =>
    obtain ⟨k, m, c', md, cd, a', ad, R, hk, hm, hmd, rfl, rfl, HK, hL, hfb, hd, HAp⟩ := hrel
    clear HL0 HD0 HF0 k0
    have k0 := hL.inn.cell0
    have hz := hL.size
    by_cases hlt : k < nn
    · have HIn2 := hideIt (l05In_any (rts R).flatten (k : Int) md ad cd (by omega) wr (Is_of_own hd))
      by_cases hin : (k : Int) ∈ (rts R).flatten
      · rw [decide_eq_true hin] at HIn2
        have HK2 := hideIt (ftK_there HK.out hin)
        have HL := hideIt hL
        have HFB := hideIt hfb
        have HD := hideIt hd
        clear hin hL hfb hd HK
        go_wp2_with (go_at_call 93; refine HIn2.out.mono ?_; rintro e w1 ⟨rfl, hw⟩; have hw' := hw.symm; subst hw'; clear hw)
        exact ⟨⟨k + 1, m, c', md, cd, a', ad, R, by omega, by omega, by omega, by go_num, rfl, HK2, HL.out, HFB.out, HD.out, HAp⟩, by simp [intOf]; omega⟩
      · rw [decide_eq_false hin] at HIn2
        cases hw : wk (fE ls lv) nn nn (k : Int) (-1) [] with
        | none =>
          have HN := hideIt (ftK_none (ftK_ring HK.out hin hw) nn (by omega))
          have HT2 := hideIt (HTr.out g mE cE k wr hlt hw (hL.edges HOE.out))
          have HL := hideIt hL
          clear hin hw hL hfb hd HK
          go_wp2_with (first | (go_at_call 93; refine HIn2.out.mono ?_; rintro e w1 ⟨rfl, hw⟩; have hw' := hw.symm; subst hw'; clear hw) | (go_at_call 148; refine HT2.out.mono ?_; rintro e w4 ⟨a4, c4, rfl, hb4⟩; refine Hid.out ?_))
          refine (show ∀ {p : Prop}, p → Hid p from fun h => h) ?_
          have hL4 := HL.out.up z2 (hb4.mono hz)
          have r0 := hL4.out.cell0
          have r1 := hL4.out.cell1
          have q0 := hL4.out.frozen 0
          have q1 := hL4.out.frozen 1
          have HOl := hideIt hL4.old
          clear HT2 hb4 hL4
          go_wp2
          rw [HN.out]
          refine bodyPost_ret (v := .tuple #[.agg #[.int .i64 0, .slice none 0 0], .bool false]) (by simp [results, Tryz.results81, go_sem, r0, r1]) rfl ⟨none, 0, 0, [], rfl, FB.nil _ _, rfl, ?_⟩
          exact (HOl.out.setCell (p := ⟨w.heap.size + 1, 0, none⟩) (by show _ ≤ w.heap.size + 1; omega) _).setCell (p := ⟨w.heap.size + 1, 1, none⟩) (by show _ ≤ w.heap.size + 1; omega) _
        | some p =>
          obtain ⟨t, sn⟩ := p
          have htl := tB_len (wk_tree HE.out hn12 (by omega) (by omega) hw).1
          have HK2 : Hid (∀ r : Rw, r.t = t → ftK (fE ls lv) nn (k + 1) = some (rts (R ++ [r]))) := fun r hr => by rw [ftK_new HK.out hin hw, rts_snoc, hr]
          have HT2 := hideIt (HTo.out g mE cE k t sn wr hlt hw (by omega) (hL.edges HOE.out))
          have HL := hideIt hL
          have HFB := hideIt hfb
          have HD := hideIt hd
          clear hin hw hL hfb hd HK
          go_wp2_with (first | (go_at_call 93; refine HIn2.out.mono ?_; rintro e w1 ⟨rfl, hw⟩; have hw' := hw.symm; subst hw'; clear hw) | (go_at_call 148; refine HT2.out.mono ?_; rintro e w4 ⟨a4, m4, c4, rfl, ho4, hb4⟩; refine Hid.out ?_))
          refine (show ∀ {p : Prop}, p → Hid p from fun h => h) ?_
          have hm4 : t.length = m4 := by have := ho4.1; rw [ic_len] at this; omega
          subst hm4
          obtain ⟨g4, c4', hform, _⟩ := ho4.form (by omega)
          simp at hform
          obtain ⟨rfl, rfl⟩ := hform
          have hgl := (ho4.lt g4 rfl).1
          have HRw := hideIt (RwB.of_own ho4)
          have HL4 := hideIt (HL.out.up z2 (hb4.mono hz))
          have HFB4 := hideIt (HFB.out.keep hb4)
          have HD4 := hideIt (own_up HD.out hb4)
          have HFr : Hid (∀ x ∈ R, x.g ≠ g4) := fun x hx e => by have := (HFB.out.ins x hx).2.2; omega
          have HDg : Hid ((Value.slice ad md cd).ownBlock ≠ some g4) := fun e => by have := (HD.out.lt g4 e).2; omega
          have z4 := HL4.out.size
          have e0 := HL4.out.box.cell1
          have e1 := HL4.out.box.frozen 1
          clear HT2 ho4 hb4 HL HFB HD k0 HIn2
          go_wp2_with (at_builtin; refine wpList_append_own _ rfl _ _ 55 rfl w2.heap.size 44 i0 _ 1 24 Tryz.underlying55 hi hz0 hz1 hz2 rfl (by decide) _ _ _ rfl (HFB4.out.own.alloc _) ⟨w4.heap.size, 0, none⟩ 1 1 [.slice (some ⟨g4, 0, none⟩) t.length c4] rfl rfl (newsV9 w4 _) (by intro y hy; simp at hy; subst hy; rfl) (by unfold maxLen; omega) (by omega) (by simp; omega) ?_)
          intro v5 w5 hown5 hg5 _
          obtain ⟨a5, c5, rfl, F5⟩ := HFB4.out.app (r := ⟨g4, c4, t⟩) HRw.out (by show w2.heap.size ≤ g4; omega) HFr.out hown5 hg5
          have hbl5 := own_grown HFB4.out.own hg5 z4
          have HL5 := hideIt (HL4.out.up z2 hbl5)
          have hd5 := World.ownsRow.kept (HD4.out.alloc (.cells #[.slice (some ⟨g4, 0, none⟩) t.length c4] 44)) hg5 (by
            rcases own_kind HD4.out HFB4.out.own (by decide) with h1 | h1
            · exact .inl h1
            · exact .inr h1)
          have HD5 := hideIt hd5
          have HF5 := hideIt F5
          have x0 := HL5.out.box.cell1
          have x1 := HL5.out.box.frozen 1
          clear hown5 hg5 F5 HFB4 HL4 HD4 hbl5 hd5 e0 e1
          have HL6 := hideIt (HL5.out.set (.slice a5 (m + 1) c5))
          have HF6 := hideIt ((HF5.out.setLow (x := w.heap.size + 2) (by omega) 1 (.slice a5 (m + 1) c5)).hi (hi' := (w5.setCell ⟨w.heap.size + 2, 1, none⟩ (.slice a5 (m + 1) c5)).heap.size) (by simp [World.setCell]) (Nat.le_refl _))
          have HD6 := hideIt (own_setLow HD5.out (w.heap.size + 2) 1 (.slice a5 (m + 1) c5) (by omega))
          refine Hid.out ?_
          refine (show ∀ {p : Prop}, p → Hid p from fun h => h) ?_
          have hIs : Is (w5.setCell ⟨w.heap.size + 2, 1, none⟩ (.slice a5 (m + 1) c5)) (w5.setCell ⟨w.heap.size + 2, 1, none⟩ (.slice a5 (m + 1) c5)).heap.size (some ⟨g4, 0, none⟩) t.length t := (HF6.out.ins ⟨g4, c4, t⟩ (by simp)).1.is
          have HN6 := hideIt hIs.news
          have HN6l : Hid ((ic t).length = t.length * 1) := by show _ = _; rw [ic_len]; omega
          have z6 := HL6.out.size
          have hmdl : md ≤ 300 := by omega
          clear hIs HL5 HF5 HD5
          go_wp2_with (at_builtin; refine wpList_append_lies _ rfl _ _ 44 rfl w2.heap.size 3 j0 _ 1 8 Tryz.underlying44 hj hy0 hy1 hy2 rfl (by decide) _ _ _ rfl HD6.out ⟨g4, 0, none⟩ t.length c4 (ic t) rfl HN6l.out HN6.out ic_one (by omega) (by unfold maxLen; omega) (by omega) z6 _ rfl ?_)
          intro g7 c7 w7 hown7 hg7 hnew7 _
          have HB7 := own_grown' HD6.out hg7 z6
          have HL7 := hideIt (HL6.out.up z2 HB7)
          have HF7 := hideIt (HF6.out.other HD6.out (by decide) (fun r hr => by
            rcases List.mem_append.1 hr with h1 | h1
            · exact HAp.out r h1
            · simp at h1; subst h1; exact HDg.out) hg7)
          have HD7 : Hid (w7.ownsRow w2.heap.size 3 1 (.slice (some ⟨g7, 0, none⟩) (md + t.length) c7) (md + t.length) (ic (rts (R ++ [⟨g4, c4, t⟩])).flatten)) := by
            show World.ownsRow _ _ _ _ _ _ _
            rw [rts_snoc, flat_snoc, ic_app]
            exact hown7
          have HAp7 : Hid (∀ x ∈ R ++ [⟨g4, c4, t⟩], (Value.slice (some ⟨g7, 0, none⟩) (md + t.length) c7).ownBlock ≠ some x.g) := fun x hx e => by
            have e2 : g7 = x.g := by simpa [Value.ownBlock] using e
            have hx6 := (HF6.out.ins x hx).2.2
            rcases hnew7 with h1 | h1
            · rcases List.mem_append.1 hx with h2 | h2
              · exact HAp.out x h2 (by rw [h1, e2])
              · simp at h2
                subst h2
                exact HDg.out (by rw [h1, e2])
            · have h3 : (w5.setCell ⟨w.heap.size + 2, 1, none⟩ (.slice a5 (m + 1) c5)).heap.size = w5.heap.size := by simp [World.setCell]
              rw [h3] at hx6
              have h4 : g7 = w5.heap.size := by rw [h1]
              omega
          clear hown7 hg7 hnew7 HB7 HL6 HF6 HD6 HN6 HN6l x0 x1
          go_wp2
          exact ⟨⟨k + 1, m + 1, c5, md + t.length, c7, a5, some ⟨g7, 0, none⟩, R ++ [⟨g4, c4, t⟩], by omega, by omega, by omega, by go_num, rfl, HK2.out _ rfl, HL7.out, HF7.out, HD7.out, HAp7⟩, by simp [intOf]; omega⟩
    · obtain rfl : k = nn := by omega
      have r0 := hL.out.cell0
      have r1 := hL.out.cell1
      have q0 := hL.out.frozen 0
      have q1 := hL.out.frozen 1
      have e0 := hL.box.cell0
      have e1 := hL.box.cell1
      have HFB := hideIt hfb
      have HOl := hideIt hL.old
      clear hfb hd hL
      go_wp2
      rw [HK.out]
      refine bodyPost_ret (v := .tuple #[.agg #[.int .i64 (k : Int), .slice a' m c'], .bool true]) (by simp [results, Tryz.results81, go_sem, r0, r1]) rfl ⟨a', m, c', R, rfl, ?_, rfl, ?_⟩
      · exact ((HFB.out.setLow (x := w.heap.size + 1) (by omega) 0 (.int .i64 (k : Int))).setLow (x := w.heap.size + 1) (by omega) 1 (.slice a' m c')).lo (by omega) |>.hi (by simp [World.setCell]) (Nat.le_refl _)
      · exact (HOl.out.setCell (p := ⟨w.heap.size + 1, 0, none⟩) (by show _ ≤ w.heap.size + 1; omega) _).setCell (p := ⟨w.heap.size + 1, 1, none⟩) (by show _ ≤ w.heap.size + 1; omega) _
end Go.Proofs.YtpfkfbmghddepaaGreat
namespace Go.Proofs.YtpfkfbmghddepaaGreat
open Go.RowKit

set_option maxRecDepth 100000 in
set_option maxHeartbeats 4000000 in
theorem sGraphOf_any (N : Int) (ls : List Ld) (n : Nat) (a : Option Addr) (c : Nat) (hn : n ≤ 1048576) (w : World) (h : Ls w w.heap.size a n ls) :
    Calls Tryz.prog 27 #[.agg #[.int .i64 N, .slice a n c]] w fun e w' => ∃ a' c', e = .returned (.agg #[.int .i64 N, .slice a' n c']) ∧ w'.ownsRow w.heap.size 28 2 (.slice a' n c') n (ecells (gE ls)) ∧ Below w.heap.size w w' := by
  obtain ⟨i0, hi, hz0, hz1, hz2⟩ := info_parts infoIE
  have HR := hideIt h
  have hlen := h.1
  clear h
  go_enter Tryz.func27, Tryz.ntmps27
  go_wp2
  go_loopw [4] (fun i wr => ∃ (k : Nat) (a' : Option Addr) (c' : Nat), k ≤ n ∧ i = .int .i64 (k : Int) ∧ Box7 wr w.heap.size 26 (.int .i64 N) (.slice a n c) ∧ Box7 wr (w.heap.size + 1) 33 (.int .i64 0) (.slice none 0 0) ∧ Box7 wr (w.heap.size + 1 + 1) 33 (.int .i64 N) (.slice a' k c') ∧
      wr.ownsRow (w.heap.size + 1 + 1 + 1) 28 2 (.slice a' k c') k (ecells (gE (ls.take k))) ∧ Below w.heap.size w wr) (fun i _ => n - (intOf i).toNat)
  case atStart =>
    refine ⟨0, none, 0, by omega, rfl, ?_, ?_, ?_, by simpa [gE, ecells] using World.ownsRow_nil _ _ _ _, ?_⟩
    · exact ((Box7.new w _ _ _ _ rfl).alloc _).alloc _
    · exact (Box7.new _ _ _ _ _ (by simp)).alloc _
    · exact Box7.new _ _ _ _ _ (by simp)
    · exact (((Below.refl _ _).alloc (Nat.le_refl _) _).alloc (by simp) _).alloc (by simp; omega) _
  case round =>
    obtain ⟨k, a', c', hk, rfl, x0, x1, x2, hown, hb⟩ := hrel
    have e0 := x0.cell1
    have e1 := x2.cell1
    have e2 := x2.frozen 1
    have l2 := x2.lt
    by_cases hlt : k < n
    · obtain ⟨b, off, x, rfl, hbl, hxk, hat⟩ := (HR.out.below hb (Nat.le_refl _)).at hlt
      have d0 := hat.ca
      have d1 := hat.cb
      have b1 : (0 : Int) ≤ (k : Int) := by omega
      have b2 : (k : Int) < (n : Int) := by omega
      have HX : Hid (ecells (gE (ls.take (k + 1))) = ecells (gE (ls.take k)) ++ [.int .i64 x.a, .int .i64 x.b]) := by
        show _ = _
        rw [take_snocF ls k x hxk]
        simp [gE, Ld.e, ecells, ecell]
      have hrow : ∀ q, q < w.heap.size + 1 + 1 + 1 → some q ≠ (Value.slice a' k c').ownBlock := fun q hq e => by
        have := (hown.lt q e.symm).1
        omega
      have HK : Hid (∀ w1 : World, ((wr.alloc (.cells #[.int .i64 x.a, .int .i64 x.b] 28)).drew).grownBy w1 (Value.slice a' k c').ownBlock →
          (w1.cell? ⟨w.heap.size, 1, none⟩ = some (.slice (some ⟨b, off, none⟩) n c) ∧ w1.cell? ⟨b, off + k * 4, none⟩ = some (.int .i64 x.a) ∧ w1.cell? ⟨b, off + k * 4 + 1, none⟩ = some (.int .i64 x.b)) ∧
          Box7 w1 w.heap.size 26 (.int .i64 N) (.slice (some ⟨b, off, none⟩) n c) ∧ Box7 w1 (w.heap.size + 1) 33 (.int .i64 0) (.slice none 0 0) ∧ Box7 w1 (w.heap.size + 1 + 1) 33 (.int .i64 N) (.slice a' k c') ∧ Below w.heap.size w w1) := fun w1 hg => by
        have y0 := (x0.alloc (.cells #[.int .i64 x.a, .int .i64 x.b] 28)).grown (w' := w1) ⟨hg.os, hg.tape, hg.output, hg.size, hg.block⟩ (hrow _ (by omega))
        have y1 := (x1.alloc (.cells #[.int .i64 x.a, .int .i64 x.b] 28)).grown (w' := w1) ⟨hg.os, hg.tape, hg.output, hg.size, hg.block⟩ (hrow _ (by omega))
        have y2 := (x2.alloc (.cells #[.int .i64 x.a, .int .i64 x.b] 28)).grown (w' := w1) ⟨hg.os, hg.tape, hg.output, hg.size, hg.block⟩ (hrow _ (by omega))
        have hb1 : Below wr.heap.size wr (wr.alloc (.cells #[.int .i64 x.a, .int .i64 x.b] 28)).drew := ((Below.refl _ _).alloc (Nat.le_refl _) _).drew
        have hb2 : Below w.heap.size wr w1 := (hb1.mono hb.size).grown hg (by have := hb.size; simp; omega) (fun j hj => by have := (hown.lt j hj).1; omega)
        exact ⟨⟨y0.cell1, by rw [hb2.cell hbl]; exact d0, by rw [hb2.cell hbl]; exact d1⟩, y0, y1, y2, hb.trans hb2⟩
      have hS0 : wr.drew.cell? ⟨w.heap.size, 1, none⟩ = some (.slice (some ⟨b, off, none⟩) n c) ∧ wr.drew.cell? ⟨b, off + k * 4, none⟩ = some (.int .i64 x.a) ∧ wr.drew.cell? ⟨b, off + k * 4 + 1, none⟩ = some (.int .i64 x.b) := ⟨e0, d0, d1⟩
      have hal : Below wr.heap.size wr (wr.alloc (.cells #[.int .i64 x.a, .int .i64 x.b] 28)).drew := ((Below.refl _ _).alloc (Nat.le_refl _) _).drew
      have hbw : b < wr.heap.size := by have := hb.size; omega
      have hS1 : (wr.alloc (.cells #[.int .i64 x.a, .int .i64 x.b] 28)).drew.cell? ⟨w.heap.size, 1, none⟩ = some (.slice (some ⟨b, off, none⟩) n c) ∧ (wr.alloc (.cells #[.int .i64 x.a, .int .i64 x.b] 28)).drew.cell? ⟨b, off + k * 4, none⟩ = some (.int .i64 x.a) ∧ (wr.alloc (.cells #[.int .i64 x.a, .int .i64 x.b] 28)).drew.cell? ⟨b, off + k * 4 + 1, none⟩ = some (.int .i64 x.b) :=
        ⟨by rw [hal.cell x0.lt]; exact e0, by rw [hal.cell hbw]; exact d0, by rw [hal.cell hbw]; exact d1⟩
      have HS2 : Hid (∀ (u : World) (v : Value) (j : Nat), (u.cell? ⟨w.heap.size, 1, none⟩ = some (.slice (some ⟨b, off, none⟩) n c) ∧ u.cell? ⟨b, off + k * 4, none⟩ = some (.int .i64 x.a) ∧ u.cell? ⟨b, off + k * 4 + 1, none⟩ = some (.int .i64 x.b)) → ((u.setCell ⟨w.heap.size + 1 + 1, j, none⟩ v).cell? ⟨w.heap.size, 1, none⟩ = some (.slice (some ⟨b, off, none⟩) n c) ∧ (u.setCell ⟨w.heap.size + 1 + 1, j, none⟩ v).cell? ⟨b, off + k * 4, none⟩ = some (.int .i64 x.a) ∧ (u.setCell ⟨w.heap.size + 1 + 1, j, none⟩ v).cell? ⟨b, off + k * 4 + 1, none⟩ = some (.int .i64 x.b))) := fun u v j h => by
        rw [set_other (by omega), set_other (by omega), set_other (by omega)]
        exact h
      have HOwn := hideIt hown
      clear hxk hat hown hal
      go_wp2
      refine wp_region_held_drew (S := (fun u => u.cell? ⟨w.heap.size, 1, none⟩ = some (.slice (some ⟨b, off, none⟩) n c) ∧ u.cell? ⟨b, off + k * 4, none⟩ = some (.int .i64 x.a) ∧ u.cell? ⟨b, off + k * 4 + 1, none⟩ = some (.int .i64 x.b))) (by kernel_rfl) hS0 (fun hHeld => ?_)
      refine wpAnyH_take (i := 0) (v := ?_) rfl (by kernel_rfl) (by kernel_rfl) (by kernel_rfl) (fun _ _ _ h => h) (Or.inl ⟨by rfl, ?_⟩) (by assumption) ?_
      rotate_left
      · intro w hSw; (try dsimp only at hSw); go_simp; try with_reducible rfl
      try simp only [Act.put, List.getElem_toArray, List.getElem_cons_zero, List.setIfInBounds_toArray, List.set_cons_zero, List.set_cons_succ]
      refine wpAnyH_take (i := 2) (v := ?_) rfl (by kernel_rfl) (by kernel_rfl) (by kernel_rfl) (fun _ _ _ h => h) (Or.inl ⟨by rfl, ?_⟩) (by assumption) ?_
      rotate_left
      · intro w hSw; (try dsimp only at hSw); go_simp; try with_reducible rfl
      try simp only [Act.put, List.getElem_toArray, List.getElem_cons_succ, List.getElem_cons_zero, List.setIfInBounds_toArray, List.set_cons_zero, List.set_cons_succ]
      refine wpAnyH_take (i := 3) (v := ?_) rfl (by kernel_rfl) (by kernel_rfl) (by kernel_rfl) (fun _ _ _ h => h) (Or.inl ⟨by rfl, ?_⟩) (by assumption) ?_
      rotate_left
      · intro w hSw; (try dsimp only at hSw); go_simp; try with_reducible rfl
      try simp only [Act.put, List.getElem_toArray, List.getElem_cons_succ, List.getElem_cons_zero, List.setIfInBounds_toArray, List.set_cons_zero, List.set_cons_succ]
      refine wpAnyH_take (i := 4) (v := ?_) rfl (by kernel_rfl) (by kernel_rfl) (by kernel_rfl) (fun _ _ _ h => h) (Or.inl ⟨by rfl, ?_⟩) (by assumption) ?_
      rotate_left
      · intro w hSw; (try dsimp only at hSw); go_simp; try with_reducible rfl
      try simp only [Act.put, List.getElem_toArray, List.getElem_cons_succ, List.getElem_cons_zero, List.setIfInBounds_toArray, List.set_cons_zero, List.set_cons_succ]
      refine wpAnyH_take (i := 5) (v := ?_) rfl (by kernel_rfl) (by kernel_rfl) (by kernel_rfl) (fun _ _ _ h => h) (Or.inl ⟨by rfl, ?_⟩) (by assumption) ?_
      rotate_left
      · intro w hSw; (try dsimp only at hSw); go_simp; try with_reducible rfl
      try simp only [Act.put, List.getElem_toArray, List.getElem_cons_succ, List.getElem_cons_zero, List.setIfInBounds_toArray, List.set_cons_zero, List.set_cons_succ]
      refine wpAnyH_take (i := 6) (v := ?_) rfl (by kernel_rfl) (by kernel_rfl) (by kernel_rfl) (fun _ _ _ h => h) (Or.inl ⟨by rfl, ?_⟩) (by assumption) ?_
      rotate_left
      · intro w hSw; (try dsimp only at hSw); go_simp; try with_reducible rfl
      try simp only [Act.put, List.getElem_toArray, List.getElem_cons_succ, List.getElem_cons_zero, List.setIfInBounds_toArray, List.set_cons_zero, List.set_cons_succ]
      refine wpAnyH_take (i := 7) (v := ?_) rfl (by kernel_rfl) (by kernel_rfl) (by kernel_rfl) (fun _ _ _ h => h) (Or.inl ⟨by rfl, ?_⟩) (by assumption) ?_
      rotate_left
      · intro w hSw; (try dsimp only at hSw); go_simp; try with_reducible rfl
      try simp only [Act.put, List.getElem_toArray, List.getElem_cons_succ, List.getElem_cons_zero, List.setIfInBounds_toArray, List.set_cons_zero, List.set_cons_succ]
      refine wpAnyH_take (i := 8) (v := ?_) rfl (by kernel_rfl) (by kernel_rfl) (by kernel_rfl) (fun _ _ _ h => h) (Or.inl ⟨by rfl, ?_⟩) (by assumption) ?_
      rotate_left
      · intro w hSw; (try dsimp only at hSw); go_simp; try with_reducible rfl
      try simp only [Act.put, List.getElem_toArray, List.getElem_cons_succ, List.getElem_cons_zero, List.setIfInBounds_toArray, List.set_cons_zero, List.set_cons_succ]
      refine wpAnyH_take (i := 9) (v := ?_) rfl (by kernel_rfl) (by kernel_rfl) (by kernel_rfl) (fun _ _ _ h => h) (Or.inl ⟨by rfl, ?_⟩) (by assumption) ?_
      rotate_left
      · intro w hSw; (try dsimp only at hSw); go_simp; try with_reducible rfl
      try simp only [Act.put, List.getElem_toArray, List.getElem_cons_succ, List.getElem_cons_zero, List.setIfInBounds_toArray, List.set_cons_zero, List.set_cons_succ]
      refine wpAnyH_take (i := 10) (v := ?_) rfl (by kernel_rfl) (by kernel_rfl) (by kernel_rfl) (fun _ _ _ h => h) (Or.inl ⟨by rfl, ?_⟩) (by assumption) ?_
      rotate_left
      · intro w hSw; (try dsimp only at hSw); go_simp; try with_reducible rfl
      try simp only [Act.put, List.getElem_toArray, List.getElem_cons_succ, List.getElem_cons_zero, List.setIfInBounds_toArray, List.set_cons_zero, List.set_cons_succ]
      refine wpAnyH_take (i := 11) (v := ?_) rfl (by kernel_rfl) (by kernel_rfl) (by kernel_rfl) (fun _ _ _ h => h) (Or.inl ⟨by rfl, ?_⟩) (by assumption) ?_
      rotate_left
      · intro w hSw; (try dsimp only at hSw); go_simp; try with_reducible rfl
      try simp only [Act.put, List.getElem_toArray, List.getElem_cons_succ, List.getElem_cons_zero, List.setIfInBounds_toArray, List.set_cons_zero, List.set_cons_succ]
      refine wpAnyH_take (i := 12) (v := ?_) rfl (by kernel_rfl) (by kernel_rfl) (by kernel_rfl) (fun _ _ _ h => h) (Or.inl ⟨by rfl, ?_⟩) (by assumption) ?_
      rotate_left
      · intro w hSw; (try dsimp only at hSw); go_simp; try with_reducible rfl
      try simp only [Act.put, List.getElem_toArray, List.getElem_cons_succ, List.getElem_cons_zero, List.setIfInBounds_toArray, List.set_cons_zero, List.set_cons_succ]
      refine wpAnyH_take (i := 13) (v := ?_) rfl (by kernel_rfl) (by kernel_rfl) (by kernel_rfl) (fun _ _ _ h => h) (Or.inl ⟨by rfl, ?_⟩) (by assumption) ?_
      rotate_left
      · intro w hSw; (try dsimp only at hSw); go_simp; try with_reducible rfl
      try simp only [Act.put, List.getElem_toArray, List.getElem_cons_succ, List.getElem_cons_zero, List.setIfInBounds_toArray, List.set_cons_zero, List.set_cons_succ]
      refine wpAnyH_take (i := 14) (v := ?_) rfl (by kernel_rfl) (by kernel_rfl) (by kernel_rfl) (fun _ _ _ h => h) (Or.inl ⟨by rfl, ?_⟩) (by assumption) ?_
      rotate_left
      · intro w hSw; (try dsimp only at hSw); go_simp; try with_reducible rfl
      try simp only [Act.put, List.getElem_toArray, List.getElem_cons_succ, List.getElem_cons_zero, List.setIfInBounds_toArray, List.set_cons_zero, List.set_cons_succ]
      refine wpAnyH_ready (rs := [1, 15]) (by kernel_rfl) (by simp) ?_
      refine AllReadyH.cons rfl (fun K hK => ?_) (AllReadyH.cons rfl (fun K hK => ?_) AllReadyH.nil)
      · go_simp
        refine hK.out _ _ hS0 (fun hHeld => ?_)
        clear hK K
        try simp only [Act.put, List.getElem_toArray, List.getElem_cons_succ, List.getElem_cons_zero, List.setIfInBounds_toArray, List.set_cons_zero, List.set_cons_succ]
        refine wpAnyH_ready (rs := [15]) (by kernel_rfl) (by simp) ?_
        refine AllReadyH.cons rfl (fun K hK => ?_) AllReadyH.nil
        go_simp
        refine hK.out _ _ hS1 (fun hHeld => ?_)
        clear hK K
        try simp only [Act.put, List.getElem_toArray, List.getElem_cons_succ, List.getElem_cons_zero, List.setIfInBounds_toArray, List.set_cons_zero, List.set_cons_succ]
        refine wpAnyH_ready (rs := [16]) (by kernel_rfl) (by simp) ?_
        refine AllReadyH.cons rfl (fun K hK => ?_) AllReadyH.nil
        refine step_append_lies _ (by rfl) _ _ _ (by rfl) (w.heap.size + 1 + 1 + 1) 28 i0 _ 2 16 Tryz.underlying31 hi hz0 hz1 hz2 rfl (by omega) _ k _ (by rfl) ((HOwn.out.alloc _).drew) ⟨wr.heap.size, 0, none⟩ 1 1 [.int .i64 x.a, .int .i64 x.b] (by rfl) (by rfl) (World.news_of_block (cs := #[.int .i64 x.a, .int .i64 x.b]) (t := 28) (fr := (0, 0)) (heap_alloc_new wr _)) (by simp [Value.oneCell']) (by omega) (by unfold maxLen; omega) (by omega) (by simp; omega) (wr.heap.size + 1) (by simp) ?_
        intro g1 cap1 w1 hown1 hg1 hat1 hlt1
        obtain ⟨S1, y0, y1, y2, hb1⟩ := HK.out _ hg1
        have z1 := y2.cell1
        have z2 := y2.frozen 1
        refine hK.out _ _ S1 (fun hHeld => ?_)
        clear hK K
        try simp only [Act.put, List.getElem_toArray, List.getElem_cons_succ, List.getElem_cons_zero, List.setIfInBounds_toArray, List.set_cons_zero, List.set_cons_succ]
        refine wpAnyH_ready (rs := [17]) (by kernel_rfl) (by simp) ?_
        refine AllReadyH.cons rfl (fun K hK => ?_) AllReadyH.nil
        go_simp
        refine hK.out _ _ S1 (fun hHeld => ?_)
        clear hK K
        try simp only [Act.put, List.getElem_toArray, List.getElem_cons_succ, List.getElem_cons_zero, List.setIfInBounds_toArray, List.set_cons_zero, List.set_cons_succ]
        refine wpAnyH_ready (rs := [18]) (by kernel_rfl) (by simp) ?_
        refine AllReadyH.cons rfl (fun K hK => ?_) AllReadyH.nil
        go_simp
        refine hK.out _ _ (HS2.out _ _ _ S1) (fun hHeld => ?_)
        clear hK K
        try simp only [Act.put, List.getElem_toArray, List.getElem_cons_succ, List.getElem_cons_zero, List.setIfInBounds_toArray, List.set_cons_zero, List.set_cons_succ]
        refine wpAnyH_done (by kernel_rfl) ?_ _
        have lg := (hown1.lt g1 rfl).1
        have HO := hideIt (own_setOther hown1 (w.heap.size + 1 + 1) 1 (.slice (some ⟨g1, 0, none⟩) (k + 1) cap1) (by omega))
        have q0 := y0.setOther (j := 1) (.slice (some ⟨g1, 0, none⟩) (k + 1) cap1) (show w.heap.size ≠ w.heap.size + 1 + 1 by omega)
        have q1 := y1.setOther (j := 1) (.slice (some ⟨g1, 0, none⟩) (k + 1) cap1) (show w.heap.size + 1 ≠ w.heap.size + 1 + 1 by omega)
        have q2 := y2.set1 (.slice (some ⟨g1, 0, none⟩) (k + 1) cap1)
        have q3 := hb1.setCell (p := ⟨w.heap.size + 1 + 1, 1, none⟩) (by show _ ≤ w.heap.size + 1 + 1; omega) (.slice (some ⟨g1, 0, none⟩) (k + 1) cap1)
        clear hown1 hg1 HOwn S1 HK hrow
        go_wp2
        exact ⟨⟨k + 1, _, _, by omega, by go_num, q0, q1, q2, by rw [HX.out]; exact HO.out, q3⟩, by simp [intOf]; omega⟩
      · go_simp
        refine hK.out _ _ hS1 (fun hHeld => ?_)
        clear hK K
        try simp only [Act.put, List.getElem_toArray, List.getElem_cons_succ, List.getElem_cons_zero, List.setIfInBounds_toArray, List.set_cons_zero, List.set_cons_succ]
        refine wpAnyH_ready (rs := [1]) (by kernel_rfl) (by simp) ?_
        refine AllReadyH.cons rfl (fun K hK => ?_) AllReadyH.nil
        go_simp
        refine hK.out _ _ hS1 (fun hHeld => ?_)
        clear hK K
        try simp only [Act.put, List.getElem_toArray, List.getElem_cons_succ, List.getElem_cons_zero, List.setIfInBounds_toArray, List.set_cons_zero, List.set_cons_succ]
        refine wpAnyH_ready (rs := [16]) (by kernel_rfl) (by simp) ?_
        refine AllReadyH.cons rfl (fun K hK => ?_) AllReadyH.nil
        refine step_append_lies _ (by rfl) _ _ _ (by rfl) (w.heap.size + 1 + 1 + 1) 28 i0 _ 2 16 Tryz.underlying31 hi hz0 hz1 hz2 rfl (by omega) _ k _ (by rfl) ((HOwn.out.alloc _).drew) ⟨wr.heap.size, 0, none⟩ 1 1 [.int .i64 x.a, .int .i64 x.b] (by rfl) (by rfl) (World.news_of_block (cs := #[.int .i64 x.a, .int .i64 x.b]) (t := 28) (fr := (0, 0)) (heap_alloc_new wr _)) (by simp [Value.oneCell']) (by omega) (by unfold maxLen; omega) (by omega) (by simp; omega) (wr.heap.size + 1) (by simp) ?_
        intro g1 cap1 w1 hown1 hg1 hat1 hlt1
        obtain ⟨S1, y0, y1, y2, hb1⟩ := HK.out _ hg1
        have z1 := y2.cell1
        have z2 := y2.frozen 1
        refine hK.out _ _ S1 (fun hHeld => ?_)
        clear hK K
        try simp only [Act.put, List.getElem_toArray, List.getElem_cons_succ, List.getElem_cons_zero, List.setIfInBounds_toArray, List.set_cons_zero, List.set_cons_succ]
        refine wpAnyH_ready (rs := [17]) (by kernel_rfl) (by simp) ?_
        refine AllReadyH.cons rfl (fun K hK => ?_) AllReadyH.nil
        go_simp
        refine hK.out _ _ S1 (fun hHeld => ?_)
        clear hK K
        try simp only [Act.put, List.getElem_toArray, List.getElem_cons_succ, List.getElem_cons_zero, List.setIfInBounds_toArray, List.set_cons_zero, List.set_cons_succ]
        refine wpAnyH_ready (rs := [18]) (by kernel_rfl) (by simp) ?_
        refine AllReadyH.cons rfl (fun K hK => ?_) AllReadyH.nil
        go_simp
        refine hK.out _ _ (HS2.out _ _ _ S1) (fun hHeld => ?_)
        clear hK K
        try simp only [Act.put, List.getElem_toArray, List.getElem_cons_succ, List.getElem_cons_zero, List.setIfInBounds_toArray, List.set_cons_zero, List.set_cons_succ]
        refine wpAnyH_done (by kernel_rfl) ?_ _
        have lg := (hown1.lt g1 rfl).1
        have HO := hideIt (own_setOther hown1 (w.heap.size + 1 + 1) 1 (.slice (some ⟨g1, 0, none⟩) (k + 1) cap1) (by omega))
        have q0 := y0.setOther (j := 1) (.slice (some ⟨g1, 0, none⟩) (k + 1) cap1) (show w.heap.size ≠ w.heap.size + 1 + 1 by omega)
        have q1 := y1.setOther (j := 1) (.slice (some ⟨g1, 0, none⟩) (k + 1) cap1) (show w.heap.size + 1 ≠ w.heap.size + 1 + 1 by omega)
        have q2 := y2.set1 (.slice (some ⟨g1, 0, none⟩) (k + 1) cap1)
        have q3 := hb1.setCell (p := ⟨w.heap.size + 1 + 1, 1, none⟩) (by show _ ≤ w.heap.size + 1 + 1; omega) (.slice (some ⟨g1, 0, none⟩) (k + 1) cap1)
        clear hown1 hg1 HOwn S1 HK hrow
        go_wp2
        exact ⟨⟨k + 1, _, _, by omega, by go_num, q0, q1, q2, by rw [HX.out]; exact HO.out, q3⟩, by simp [intOf]; omega⟩
    · obtain rfl : k = n := by omega
      have e : ls.take k = ls := List.take_of_length_le (by omega)
      rw [e] at hown
      have HO := hideIt hown
      have r0 := x1.cell0
      have r1 := x1.cell1
      have r2 := x1.frozen 0
      have r3 := x1.frozen 1
      have c0 := x2.cell0
      clear hown e
      have s2 := x1.set2 (.int .i64 N) (.slice a' k c')
      have s0 := s2.cell0
      have s1 := s2.cell1
      have HO2 := hideIt (own_setLow (own_setLow HO.out (w.heap.size + 1) 0 (.int .i64 N) (by omega)) (w.heap.size + 1) 1 (.slice a' k c') (by omega))
      have q3 := (hb.setCell (p := ⟨w.heap.size + 1, 0, none⟩) (by show _ ≤ w.heap.size + 1; omega) (.int .i64 N)).setCell (p := ⟨w.heap.size + 1, 1, none⟩) (by show _ ≤ w.heap.size + 1; omega) (.slice a' k c')
      clear s2
      go_wp2
      exact bodyPost_ret (v := .agg #[.int .i64 N, .slice a' k c']) (by simp [results, Tryz.results27, go_sem, s0, s1]) rfl ⟨a', c', rfl, own_mono HO2.out (by omega), q3⟩

end Go.Proofs.YtpfkfbmghddepaaGreat
namespace Go.Proofs.YtpfkfbmghddepaaGreat
open Go.RowKit

set_option maxRecDepth 100000 in
set_option maxHeartbeats 2000000 in
theorem l05Edges_any (N : Int) (es : List EdgeV) (n : Nat) (a : Option Addr) (c : Nat) (hn : n ≤ 1048576) (w : World) (h : Es w w.heap.size a n es) :
    Calls Tryz.prog 139 #[.int .i64 N, .slice a n c] w fun e w' => e = .returned (.bool (chk N es && decide (es.length ≤ 66))) ∧ Below w.heap.size w w' := by
  obtain ⟨hlen, hrow⟩ := h
  have HR := hideIt hrow
  have HL := hideIt hlen
  clear hrow
  go_enter Tryz.func139, Tryz.ntmps139
  go_wp2
  go_loopw [5] (fun i wr => ∃ k : Nat, k ≤ n ∧ i = .int .i64 (k : Int) ∧ Hid (∀ j, j < k → chkAt N es j = true) ∧ Below w.heap.size w wr) (fun i _ => n - (intOf i).toNat)
  case atStart => exact ⟨0, by omega, rfl, fun j hj => by omega, Below.refl _ _⟩
  case round =>
    obtain ⟨k, hk, rfl, hck, hb⟩ := hrel
    by_cases hlt : k < n
    · rcases HR.out with hz | ⟨b, off, rfl, hbl, hc⟩
      · omega
      · obtain ⟨f, hf⟩ : ∃ f, es[k]? = some f := ⟨es[k]'(by omega), List.getElem?_eq_getElem (by omega)⟩
        obtain ⟨c0, c1⟩ := hc k f hf
        have e0 : wr.cell? ⟨b, off + k * 2, none⟩ = some (.int .i64 f.1) := by rw [hb.cell hbl]; exact c0
        have e1 : wr.cell? ⟨b, off + k * 2 + 1, none⟩ = some (.int .i64 f.2) := by rw [hb.cell hbl]; exact c1
        have b1 : (0 : Int) ≤ (k : Int) := by omega
        have b2 : (k : Int) < (n : Int) := by omega
        have hbd := hb.drew
        have HE : Hid (∀ W : World, Below w.heap.size w W → Calls Tryz.prog 76 #[.int .i64 N, .agg #[.int .i64 f.1, .int .i64 f.2]] W fun e w' => e = .returned (.bool (eB N f)) ∧ Below w.heap.size w w') := fun W hW =>
          (sEdgeOk_any N f W).mono fun _ _ ⟨he, hb'⟩ => ⟨he, hW.trans (hb'.mono hW.size)⟩
        have HK : Hid (∀ W : World, Below w.heap.size w W → (W.cell? ⟨b, off + k * 2, none⟩ = some (.int .i64 f.1) ∧ W.cell? ⟨b, off + k * 2 + 1, none⟩ = some (.int .i64 f.2))) := fun W hW =>
          ⟨by rw [hW.cell hbl]; exact c0, by rw [hW.cell hbl]; exact c1⟩
        cases hE : eB N f with
        | false =>
          rw [hE] at HE
          have HN := hideIt (chk_no (by omega : k < es.length) (chkAt_no hf hE))
          clear hf hc c0 c1 hE hck
          go_wp2
          refine wp_region_any (by kernel_rfl) ?_
          change wpAny _ _ _ _ _ _ _ (World.drew _)
          refine takeOp (i := 0) (v := ?_) rfl (by kernel_rfl) (by kernel_rfl) (by kernel_rfl) (fun _ _ _ h => h) (by kernel_rfl) ?_ ?_
          rotate_left
          · intro w; go_simp; try with_reducible rfl
          refine takeOp (i := 1) (v := ?_) rfl (by kernel_rfl) (by kernel_rfl) (by kernel_rfl) (fun _ _ _ h => h) (by kernel_rfl) ?_ ?_
          rotate_left
          · intro w; go_simp; try with_reducible rfl
          refine takeOp (i := 2) (v := ?_) rfl (by kernel_rfl) (by kernel_rfl) (by kernel_rfl) (fun _ _ _ h => h) (by kernel_rfl) ?_ ?_
          rotate_left
          · intro w; go_simp; try with_reducible rfl
          refine wpAny_ready (rs := [3]) (by kernel_rfl) (by simp) ?_
          refine AllReady.cons rfl (fun K hK => ?_) AllReady.nil
          go_simp
          refine hK _ _ ?_
          clear hK K
          refine wpAny_ready (rs := [4]) (by kernel_rfl) (by simp) ?_
          refine AllReady.cons rfl (fun K hK => ?_) AllReady.nil
          go_simp
          refine hK _ _ ?_
          clear hK K
          refine wpAny_ready (rs := [5]) (by kernel_rfl) (by simp) ?_
          refine AllReady.cons rfl (fun K hK => ?_) AllReady.nil
          go_wp2_with (go_at_call 76; refine (HE.out _ hbd).mono ?_; rintro e w1 ⟨rfl, hb3⟩; refine Hid.out ?_)
          refine (show ∀ {p : Prop}, p → Hid p from fun h => h) ?_
          try refine hK _ _ ?_
          clear hK K
          refine wpAny_ready (rs := [6]) (by kernel_rfl) (by simp) ?_
          refine AllReady.cons rfl (fun K hK => ?_) AllReady.nil
          go_simp
          refine hK _ _ ?_
          clear hK K
          refine wpAny_ready (rs := [7]) (by kernel_rfl) (by simp) ?_
          refine AllReady.cons rfl (fun K hK => ?_) AllReady.nil
          go_simp
          refine hK _ _ ?_
          clear hK K
          refine skipOp (i := 8) rfl (by kernel_rfl) (by kernel_rfl) (by kernel_rfl) (fun _ _ _ h => h) (by kernel_rfl) ?_
          refine skipOp (i := 9) rfl (by kernel_rfl) (by kernel_rfl) (by kernel_rfl) (fun _ _ _ h => h) (by kernel_rfl) ?_
          refine skipOp (i := 10) rfl (by kernel_rfl) (by kernel_rfl) (by kernel_rfl) (fun _ _ _ h => h) (by kernel_rfl) ?_
          refine skipOp (i := 11) rfl (by kernel_rfl) (by kernel_rfl) (by kernel_rfl) (fun _ _ _ h => h) (by kernel_rfl) ?_
          refine skipOp (i := 12) rfl (by kernel_rfl) (by kernel_rfl) (by kernel_rfl) (fun _ _ _ h => h) (by kernel_rfl) ?_
          refine skipOp (i := 13) rfl (by kernel_rfl) (by kernel_rfl) (by kernel_rfl) (fun _ _ _ h => h) (by kernel_rfl) ?_
          refine skipOp (i := 14) rfl (by kernel_rfl) (by kernel_rfl) (by kernel_rfl) (fun _ _ _ h => h) (by kernel_rfl) ?_
          refine skipOp (i := 15) rfl (by kernel_rfl) (by kernel_rfl) (by kernel_rfl) (fun _ _ _ h => h) (by kernel_rfl) ?_
          refine skipOp (i := 16) rfl (by kernel_rfl) (by kernel_rfl) (by kernel_rfl) (fun _ _ _ h => h) (by kernel_rfl) ?_
          refine skipOp (i := 17) rfl (by kernel_rfl) (by kernel_rfl) (by kernel_rfl) (fun _ _ _ h => h) (by kernel_rfl) ?_
          refine skipOp (i := 18) rfl (by kernel_rfl) (by kernel_rfl) (by kernel_rfl) (fun _ _ _ h => h) (by kernel_rfl) ?_
          refine skipOp (i := 19) rfl (by kernel_rfl) (by kernel_rfl) (by kernel_rfl) (fun _ _ _ h => h) (by kernel_rfl) ?_
          refine skipOp (i := 20) rfl (by kernel_rfl) (by kernel_rfl) (by kernel_rfl) (fun _ _ _ h => h) (by kernel_rfl) ?_
          refine skipOp (i := 21) rfl (by kernel_rfl) (by kernel_rfl) (by kernel_rfl) (fun _ _ _ h => h) (by kernel_rfl) ?_
          refine skipOp (i := 22) rfl (by kernel_rfl) (by kernel_rfl) (by kernel_rfl) (fun _ _ _ h => h) (by kernel_rfl) ?_
          refine wpAny_ready (rs := [23]) (by kernel_rfl) (by simp) ?_
          refine AllReady.cons rfl (fun K hK => ?_) AllReady.nil
          go_simp
          refine hK _ _ ?_
          clear hK K
          refine wpAny_done (by kernel_rfl) ?_ _
          go_wp2
          go_ret
          exact ⟨by rw [HN.out]; rfl, hb3⟩
        | true =>
          rw [hE] at HE
          rcases k with _ | i
          · have HY := hideIt (show chkAt N es 0 = true by rw [chkAt_zero hf]; exact hE)
            clear hf hc c0 c1 hE
            rw [Nat.zero_mul, Nat.add_zero] at e0 e1
            go_wp2
            refine wp_region_any (by kernel_rfl) ?_
            change wpAny _ _ _ _ _ _ _ (World.drew _)
            refine takeOp (i := 0) (v := ?_) rfl (by kernel_rfl) (by kernel_rfl) (by kernel_rfl) (fun _ _ _ h => h) (by kernel_rfl) ?_ ?_
            rotate_left
            · intro w; go_simp; try with_reducible rfl
            refine takeOp (i := 1) (v := ?_) rfl (by kernel_rfl) (by kernel_rfl) (by kernel_rfl) (fun _ _ _ h => h) (by kernel_rfl) ?_ ?_
            rotate_left
            · intro w; go_simp; try with_reducible rfl
            refine takeOp (i := 2) (v := ?_) rfl (by kernel_rfl) (by kernel_rfl) (by kernel_rfl) (fun _ _ _ h => h) (by kernel_rfl) ?_ ?_
            rotate_left
            · intro w; go_simp; try with_reducible rfl
            refine wpAny_ready (rs := [3]) (by kernel_rfl) (by simp) ?_
            refine AllReady.cons rfl (fun K hK => ?_) AllReady.nil
            go_simp
            refine hK _ _ ?_
            clear hK K
            refine wpAny_ready (rs := [4]) (by kernel_rfl) (by simp) ?_
            refine AllReady.cons rfl (fun K hK => ?_) AllReady.nil
            go_simp
            refine hK _ _ ?_
            clear hK K
            refine wpAny_ready (rs := [5]) (by kernel_rfl) (by simp) ?_
            refine AllReady.cons rfl (fun K hK => ?_) AllReady.nil
            go_wp2_with (go_at_call 76; refine (HE.out _ hbd).mono ?_; rintro e w1 ⟨rfl, hb3⟩; refine Hid.out ?_)
            refine (show ∀ {p : Prop}, p → Hid p from fun h => h) ?_
            try refine hK _ _ ?_
            clear hK K
            refine wpAny_ready (rs := [6]) (by kernel_rfl) (by simp) ?_
            refine AllReady.cons rfl (fun K hK => ?_) AllReady.nil
            go_simp
            refine hK _ _ ?_
            clear hK K
            refine wpAny_ready (rs := [7]) (by kernel_rfl) (by simp) ?_
            refine AllReady.cons rfl (fun K hK => ?_) AllReady.nil
            go_simp
            refine hK _ _ ?_
            clear hK K
            refine wpAny_ready (rs := [8]) (by kernel_rfl) (by simp) ?_
            refine AllReady.cons rfl (fun K hK => ?_) AllReady.nil
            go_simp
            refine hK _ _ ?_
            clear hK K
            refine wpAny_ready (rs := [9]) (by kernel_rfl) (by simp) ?_
            refine AllReady.cons rfl (fun K hK => ?_) AllReady.nil
            go_simp
            refine hK _ _ ?_
            clear hK K
            refine wpAny_ready (rs := [10]) (by kernel_rfl) (by simp) ?_
            refine AllReady.cons rfl (fun K hK => ?_) AllReady.nil
            go_simp
            refine hK _ _ ?_
            clear hK K
            refine skipOp (i := 11) rfl (by kernel_rfl) (by kernel_rfl) (by kernel_rfl) (fun _ _ _ h => h) (by kernel_rfl) ?_
            refine skipOp (i := 12) rfl (by kernel_rfl) (by kernel_rfl) (by kernel_rfl) (fun _ _ _ h => h) (by kernel_rfl) ?_
            refine skipOp (i := 13) rfl (by kernel_rfl) (by kernel_rfl) (by kernel_rfl) (fun _ _ _ h => h) (by kernel_rfl) ?_
            refine skipOp (i := 14) rfl (by kernel_rfl) (by kernel_rfl) (by kernel_rfl) (fun _ _ _ h => h) (by kernel_rfl) ?_
            refine skipOp (i := 15) rfl (by kernel_rfl) (by kernel_rfl) (by kernel_rfl) (fun _ _ _ h => h) (by kernel_rfl) ?_
            refine skipOp (i := 16) rfl (by kernel_rfl) (by kernel_rfl) (by kernel_rfl) (fun _ _ _ h => h) (by kernel_rfl) ?_
            refine skipOp (i := 17) rfl (by kernel_rfl) (by kernel_rfl) (by kernel_rfl) (fun _ _ _ h => h) (by kernel_rfl) ?_
            refine skipOp (i := 18) rfl (by kernel_rfl) (by kernel_rfl) (by kernel_rfl) (fun _ _ _ h => h) (by kernel_rfl) ?_
            refine skipOp (i := 19) rfl (by kernel_rfl) (by kernel_rfl) (by kernel_rfl) (fun _ _ _ h => h) (by kernel_rfl) ?_
            refine skipOp (i := 20) rfl (by kernel_rfl) (by kernel_rfl) (by kernel_rfl) (fun _ _ _ h => h) (by kernel_rfl) ?_
            refine skipOp (i := 21) rfl (by kernel_rfl) (by kernel_rfl) (by kernel_rfl) (fun _ _ _ h => h) (by kernel_rfl) ?_
            refine wpAny_ready (rs := [22]) (by kernel_rfl) (by simp) ?_
            refine AllReady.cons rfl (fun K hK => ?_) AllReady.nil
            go_simp
            refine hK _ _ ?_
            clear hK K
            refine wpAny_ready (rs := [23]) (by kernel_rfl) (by simp) ?_
            refine AllReady.cons rfl (fun K hK => ?_) AllReady.nil
            go_simp
            refine hK _ _ ?_
            clear hK K
            refine wpAny_done (by kernel_rfl) ?_ _
            go_wp2
            exact ⟨⟨1, by omega, by go_num, fun j hj => by
              obtain rfl : j = 0 := by omega
              exact HY.out, hb3⟩, by simp [intOf]; omega⟩
          · obtain ⟨d, hd⟩ : ∃ d, es[i]? = some d := ⟨es[i]'(by omega), List.getElem?_eq_getElem (by omega)⟩
            obtain ⟨c2, c3⟩ := hc i d hd
            have HK2 : Hid (∀ W : World, Below w.heap.size w W → (W.cell? ⟨b, off + i * 2, none⟩ = some (.int .i64 d.1) ∧ W.cell? ⟨b, off + i * 2 + 1, none⟩ = some (.int .i64 d.2))) := fun W hW =>
              ⟨by rw [hW.cell hbl]; exact c2, by rw [hW.cell hbl]; exact c3⟩
            have HC := hideIt (chkAt_succ (n := N) hf hd)
            have HL2 : Hid (∀ W : World, Below w.heap.size w W → Calls Tryz.prog 145 #[.agg #[.int .i64 d.1, .int .i64 d.2], .agg #[.int .i64 f.1, .int .i64 f.2]] W fun e w' => e = .returned (.bool (lt d f)) ∧ Below w.heap.size w w') := fun W hW =>
              (l05Less_any d f W).mono fun _ _ ⟨he, hb'⟩ => ⟨he, hW.trans (hb'.mono hW.size)⟩
            have HE0 := hideIt hE
            have ek : ((i + 1 : Nat) : Int) = (i : Int) + 1 := by omega
            rw [ek] at b1 b2
            have b3 : (0 : Int) ≤ (i : Int) := by omega
            have b4 : (i : Int) < (n : Int) := by omega
            have tn : ((i : Int) + 1).toNat = i + 1 := by omega
            have d0 : decide ((0 : Int) < (i : Int) + 1) = true := decide_eq_true (by omega)
            have hw1 : IntKind.i64.wrap (i : Int) = (i : Int) := by rw [IntKind.wrap_i64]; omega
            rw [ek]
            clear ek hf hd hc c0 c1 c2 c3 hE
            cases hL : lt d f with
            | true =>
              rw [hL] at HL2
              have HY := hideIt (show chkAt N es (i + 1) = true by rw [HC.out, HE0.out, hL]; rfl)
              clear HC hL HE0
              go_wp2
              go_region_held3 (fun u => Below w.heap.size w u ∧ (u.cell? ⟨b, off + (i + 1) * 2, none⟩ = some (.int .i64 f.1) ∧ u.cell? ⟨b, off + (i + 1) * 2 + 1, none⟩ = some (.int .i64 f.2)) ∧ u.cell? ⟨b, off + i * 2, none⟩ = some (.int .i64 d.1) ∧ u.cell? ⟨b, off + i * 2 + 1, none⟩ = some (.int .i64 d.2))
                (first | exact ⟨hb4, HK.out _ hb4, HK2.out _ hb4⟩ | exact ⟨hb3, HK.out _ hb3, HK2.out _ hb3⟩ | exact ⟨hbd, HK.out _ hbd, HK2.out _ hbd⟩)
                (first
                | (go_at_call 76; refine (HE.out _ hbd).mono ?_; rintro e w1 ⟨rfl, hb3⟩)
                | (go_at_call 145; refine (HL2.out _ hb3).mono ?_; rintro e w2 ⟨rfl, hb4⟩))
              all_goals
                go_wp2
                exact ⟨⟨i + 2, by omega, by go_num, fun j hj => by
                  by_cases hji : j = i + 1
                  · subst hji; exact HY.out
                  · exact hck.out j (by omega), hb4⟩, by simp [intOf]; omega⟩
            | false =>
              rw [hL] at HL2
              have HN := hideIt (chk_no (by omega : i + 1 < es.length) (show chkAt N es (i + 1) = false by rw [HC.out, HE0.out, hL]; rfl))
              clear HC hL HE0
              go_wp2
              go_region_held3 (fun u => Below w.heap.size w u ∧ (u.cell? ⟨b, off + (i + 1) * 2, none⟩ = some (.int .i64 f.1) ∧ u.cell? ⟨b, off + (i + 1) * 2 + 1, none⟩ = some (.int .i64 f.2)) ∧ u.cell? ⟨b, off + i * 2, none⟩ = some (.int .i64 d.1) ∧ u.cell? ⟨b, off + i * 2 + 1, none⟩ = some (.int .i64 d.2))
                (first | exact ⟨hb4, HK.out _ hb4, HK2.out _ hb4⟩ | exact ⟨hb3, HK.out _ hb3, HK2.out _ hb3⟩ | exact ⟨hbd, HK.out _ hbd, HK2.out _ hbd⟩)
                (first
                | (go_at_call 76; refine (HE.out _ hbd).mono ?_; rintro e w1 ⟨rfl, hb3⟩)
                | (go_at_call 145; refine (HL2.out _ hb3).mono ?_; rintro e w2 ⟨rfl, hb4⟩))
              all_goals
                go_wp2
                go_ret
                exact ⟨by rw [HN.out]; rfl, hb4⟩
    · have HY := hideIt (chk_yes (n := N) (es := es) (fun j hj => hck.out j (by omega)))
      clear hck
      go_wp2
      go_ret
      exact ⟨by rw [HY.out, HL.out]; simp; omega, hb⟩
set_option maxHeartbeats 1000000 in
theorem sGraphOk_any (N : Int) (es : List EdgeV) (n : Nat) (a : Option Addr) (c : Nat) (hn : n ≤ 1048576) (w : World) (h : Es w w.heap.size a n es) :
    Calls Tryz.prog 71 #[.agg #[.int .i64 N, .slice a n c]] w fun e w' => e = .returned (.bool (gB N es)) ∧ Below w.heap.size w w' := by
  have HT := hideIt (l05Edges_any N es n a c hn (w.alloc (.cells #[.int .i64 N, .slice a n c] 33)) ((h.alloc (Nat.le_refl _) _).mono (by simp)))
  have HI := hideIt l01In_any
  clear h
  by_cases h1 : 1 ≤ N ∧ N ≤ 12
  · have r1 : decide (1 ≤ N ∧ N ≤ 12) = true := by simpa using h1
    have HG : Hid (gB N es = (chk N es && decide (es.length ≤ 66))) := by show _ = _; unfold gB; rw [r1]; rfl
    generalize (chk N es && decide (es.length ≤ 66)) = r at HG HT
    go_enter Tryz.func71, Tryz.ntmps71
    go_wp2_with (first | (go_at_call 80; refine (HI.out _ _ _ _).mono ?_; rintro e w1 ⟨rfl, rfl⟩) | (go_at_call 139; refine HT.out.mono ?_; rintro e w2 ⟨rfl, hb2⟩))
    go_ret
    exact ⟨by rw [HG.out]; rfl, ((Below.refl _ _).alloc (Nat.le_refl _) _).trans (hb2.mono (by simp))⟩
  · have r1 : decide (1 ≤ N ∧ N ≤ 12) = false := by simpa using h1
    have HG : Hid (gB N es = false) := by show _ = _; unfold gB; rw [r1]; rfl
    clear HT
    go_enter Tryz.func71, Tryz.ntmps71
    go_wp2_with (go_at_call 80; refine (HI.out _ _ _ _).mono ?_; rintro e w1 ⟨rfl, rfl⟩)
    go_ret
    exact ⟨by rw [HG.out]; rfl, (Below.refl _ _).alloc (Nat.le_refl _) _⟩

set_option maxHeartbeats 1000000 in
theorem sHasEdge_any (N : Int) (es : List EdgeV) (e : EdgeV) (n : Nat) (a : Option Addr) (c : Nat) (hn : n ≤ 1048576) (w : World) (h : Es w w.heap.size a n es) :
    Calls Tryz.prog 14 #[.agg #[.int .i64 N, .slice a n c], .agg #[.int .i64 e.1, .int .i64 e.2]] w fun x w' => x = .returned (.bool (hasB es e)) ∧ Below w.heap.size w w' := by
  have HT := hideIt (l05Has_any es e n a c hn ((w.alloc (.cells #[.int .i64 N, .slice a n c] 33)).alloc (.cells #[.int .i64 e.1, .int .i64 e.2] 28)) (((h.alloc (Nat.le_refl _) _).alloc (by simp) _).mono (by simp; omega)))
  clear h
  go_enter Tryz.func14, Tryz.ntmps14
  go_wp2_with (go_at_call 67; refine HT.out.mono ?_; rintro e w1 ⟨rfl, hb1⟩)
  go_ret
  exact ⟨rfl, (((Below.refl _ _).alloc (Nat.le_refl _) _).alloc (by simp) _).trans (hb1.mono (by simp; omega))⟩
end Go.Proofs.YtpfkfbmghddepaaGreat
