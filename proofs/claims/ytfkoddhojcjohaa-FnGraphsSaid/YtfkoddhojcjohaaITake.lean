/- The program's TakeEdge. -/
import Derived.Test.YtfkoddhojcjohaaIAdd
namespace Go.Proofs.Ytfkoddhojcjohaa
open Go.RowKit

theorem idxE_is {es : List EdgeV} {e : EdgeV} (h : hasB es e = true) : ∃ p : Nat, idxE es e = (p : Int) ∧ es[p]? = some e := by
  have hm : e ∈ es := by unfold hasB at h; exact of_decide_eq_true h
  refine ⟨es.idxOf e, by unfold idxE; rw [if_pos hm], ?_⟩
  have h1 := List.idxOf_lt_length_iff.2 hm
  rw [List.getElem?_eq_getElem h1, List.getElem_idxOf h1]
theorem idxE_none {es : List EdgeV} {e : EdgeV} (h : hasB es e = false) : idxE es e = -1 := by
  have hm : e ∉ es := by unfold hasB at h; exact of_decide_eq_false h
  unfold idxE
  rw [if_neg hm]

set_option maxRecDepth 100000 in
set_option maxHeartbeats 4000000 in
theorem iTakeEdge_any (N : Int) (es : List EdgeV) (f : EdgeV) (n : Nat) (a : Option Addr) (c : Nat) (hsl : Sl a n c) (hn : n ≤ 1048576) (w : World) (h : Es w w.heap.size a n es) :
    Calls Try.prog 15 #[.agg #[.int .i64 N, .slice a n c], .agg #[.int .i64 f.1, .int .i64 f.2]] w fun e w' => GAns w N (takE N es f) e w' := by
  have hA : Hid (∀ u, In3 w N a n c f u → Es u u.heap.size a n es) := fun u hu => h.up hu.below
  have HGO : Hid (∀ u, In3 w N a n c f u → Calls Try.prog 13 #[.agg #[.int .i64 N, .slice a n c]] u fun e v => e = .returned (.bool (gB N es)) ∧ In3 w N a n c f v) := fun u hu =>
    (iGraphOk_any N es n a c hn u (hA.out u hu)).mono fun _ _ ⟨he, hb⟩ => ⟨he, hu.up hb⟩
  have HIX : Hid (∀ u, In3 w N a n c f u → Calls Try.prog 41 #[.slice a n c, .agg #[.int .i64 f.1, .int .i64 f.2]] u fun e v => e = .returned (.int .i64 (idxE es f)) ∧ In3 w N a n c f v) := fun u hu =>
    (Index_any es f n a c hn u (hA.out u hu)).mono fun _ _ ⟨he, hb⟩ => ⟨he, hu.up hb⟩
  have S1 := In3.start w N a n c f
  have HK : Hid (∀ u, In3 w N a n c f u → (u.cell? ⟨w.heap.size, 0, none⟩ = some (.int .i64 N) ∧ u.cell? ⟨w.heap.size, 1, none⟩ = some (.slice a n c)) ∧ (u.cell? ⟨w.heap.size + 1, 0, none⟩ = some (.int .i64 f.1) ∧ u.cell? ⟨w.heap.size + 1, 1, none⟩ = some (.int .i64 f.2))) := fun u hu => hu.cells
  cases hG : gB N es with
  | false =>
    rw [hG] at HGO
    have HO := hideIt (show takE N es f = none by unfold takE; rw [hG, if_neg (by simp)])
    generalize idxE es f = ix at HIX
    clear hG hsl h hA
    go_enter Try.func15, Try.ntmps15
    go_wp2_with (go_at_call 41; refine (HIX.out _ S1).mono ?_; rintro e w3 ⟨rfl, S3⟩; refine Hid.out ?_)
    refine (show ∀ {p : Prop}, p → Hid p from fun h => h) ?_
    obtain ⟨⟨k0, k1⟩, k2, k3⟩ := HK.out _ S3
    go_wp2_with (go_at_call 13; refine (HGO.out _ S3).mono ?_; rintro e w4 ⟨rfl, S4⟩; refine Hid.out ?_)
    refine (show ∀ {p : Prop}, p → Hid p from fun h => h) ?_
    clear k0 k1 k2 k3
    obtain ⟨⟨r0, r1⟩, r2, r3⟩ := S4.out
    have s4 := S4.size
    go_wp2
    exact bodyPost_ret (v := .tuple #[.agg #[.int .i64 0, .slice none 0 0], .bool false]) (by simp [results, Try.results15, go_sem, r0, r1]) rfl (gans_no S4 HO.out)
  | true =>
    rw [hG] at HGO
    cases hH : hasB es f with
    | false =>
      have HO := hideIt (show takE N es f = none by unfold takE; rw [hH, if_neg (by simp)])
      rw [idxE_none hH] at HIX
      clear hG hH hsl h hA
      go_enter Try.func15, Try.ntmps15
      go_wp2_with (go_at_call 41; refine (HIX.out _ S1).mono ?_; rintro e w3 ⟨rfl, S3⟩; refine Hid.out ?_)
      refine (show ∀ {p : Prop}, p → Hid p from fun h => h) ?_
      obtain ⟨⟨k0, k1⟩, k2, k3⟩ := HK.out _ S3
      go_wp2_with (go_at_call 13; refine (HGO.out _ S3).mono ?_; rintro e w4 ⟨rfl, S4⟩; refine Hid.out ?_)
      refine (show ∀ {p : Prop}, p → Hid p from fun h => h) ?_
      clear k0 k1 k2 k3
      obtain ⟨⟨r0, r1⟩, r2, r3⟩ := S4.out
      have s4 := S4.size
      go_wp2
      exact bodyPost_ret (v := .tuple #[.agg #[.int .i64 0, .slice none 0 0], .bool false]) (by simp [results, Try.results15, go_sem, r0, r1]) rfl (gans_no S4 HO.out)
    | true =>
      have HO := hideIt (show takE N es f = some (outE es f) by unfold takE; rw [hG, hH, if_pos (by simp)])
      have hasc := asc_of_chk (gB_chk hG).2.1
      obtain ⟨p, hp, hpe⟩ := idxE_is hH
      rw [hp] at HIX
      have hl := h.1
      have hpn : p < n := by have := (List.getElem?_eq_some_iff.1 hpe).1; omega
      have HOUT := hideIt (out_at hasc hpe)
      have HLn : Hid (es.length = n) := h.1
      have dneg : decide ((p : Int) < 0) = false := decide_eq_false (by omega)
      obtain ⟨hnc, hcm, hform⟩ := hsl
      unfold maxLen at hcm
      clear hG hH h hasc hp hpe hl
      go_enter Try.func15, Try.ntmps15
      go_wp2_with (go_at_call 41; refine (HIX.out _ S1).mono ?_; rintro e w3 ⟨rfl, S3⟩; refine Hid.out ?_)
      refine (show ∀ {p : Prop}, p → Hid p from fun h => h) ?_
      obtain ⟨⟨k0, k1⟩, k2, k3⟩ := HK.out _ S3
      go_wp2_with (go_at_call 13; refine (HGO.out _ S3).mono ?_; rintro e w7 ⟨rfl, S7⟩; refine Hid.out ?_)
      refine (show ∀ {p : Prop}, p → Hid p from fun h => h) ?_
      clear k0 k1 k2 k3 S1 S3 HGO HIX
      have HES := hideIt (hA.out w7 S7)
      have z7 := S7.size
      rcases hform with ⟨rfl, rfl, rfl⟩ | ⟨b, off, rfl⟩
      · omega
      · have S7d := S7.drew
        have b1 : (0 : Int) ≤ (p : Int) := by omega
        have b2 : (p : Int) + 1 ≤ (n : Int) := by omega
        have b3 : (n : Int) ≤ (c : Int) := by omega
        have b4 : (p : Int) + 1 ≤ (c : Int) := by omega
        have b5 : (p : Int) ≤ (c : Int) := by omega
        have b6 : (0 : Int) ≤ (p : Int) + 1 := by omega
        have b7 : ((p : Int) + 1).toNat = p + 1 := by omega
        have hw1 : IntKind.i64.wrap ((p : Int) + 1) = (p : Int) + 1 := by rw [IntKind.wrap_i64]; omega
        by_cases hcp : c = p + 1
        · obtain ⟨q, hq⟩ : ∃ q, q = p + 1 := ⟨_, rfl⟩
          obtain rfl : n = q := by omega
          obtain rfl : c = n := by omega
          have hq2 : (p : Int) + 1 = (c : Int) := by omega
          have HQ := hideIt hq
          have hwc : IntKind.i64.wrap (c : Int) = (c : Int) := by rw [IntKind.wrap_i64]; omega
          have hcc : (0 : Int) ≤ (c : Int) := by omega
          clear hcp hq b7 hw1 b2 b4 b6 b3
          have T2b : Below w7.heap.size w7 (w7.alloc (.cells #[.slice (some ⟨b, off, none⟩) p c, .slice (some ⟨b, off, none⟩) (0) (0)] 24)).drew := ((Below.refl _ _).alloc (Nat.le_refl _) _).drew
          have T2 := S7.up T2b
          have HCc : Hid (Calls Try.prog 37 #[.slice (some ⟨w7.heap.size, 0, none⟩) 2 2] (w7.alloc (.cells #[.slice (some ⟨b, off, none⟩) p c, .slice (some ⟨b, off, none⟩) (0) (0)] 24)).drew
              fun e v => ∃ a' m' c', e = .returned (.slice a' m' c') ∧ Hid (v.ownsRow (w7.heap.size + 1) 28 2 (.slice a' m' c') m' (ecells (outE es f))) ∧ In3 w N (some ⟨b, off, none⟩) c c f v) := by
            have hE2 := HES.out.up T2b
            refine (Concat_any [⟨some ⟨b, off, none⟩, p, c, es.take p⟩, ⟨some ⟨b, off, none⟩, 0, 0, es.drop (p + 1)⟩] w7.heap.size 2 rfl (by omega) _ ⟨by simp, fun j q hq => ?_⟩ (by simp [pLen]; omega)).mono fun e v ⟨a', m', c', he, ho, hb⟩ => ⟨a', m', c', he, ?_, T2.up hb⟩
            · rcases j with _ | _ | j
              · simp at hq; subst hq
                exact ⟨by simp [go_sem], hE2.take (k := p) (by omega), fun h => by cases h⟩
              · simp at hq; subst hq
                exact ⟨by simp [go_sem], Es.none_of (by rw [List.length_drop]; have := HLn.out; have := HQ.out; omega), fun h => by cases h⟩
              · simp at hq
            · have hp : pAll [⟨some ⟨b, off, none⟩, p, c, es.take p⟩, ⟨some ⟨b, off, none⟩, 0, 0, es.drop (p + 1)⟩] = outE es f := by rw [HOUT.out]; simp [pAll]
              rw [hp] at ho
              exact own_mono ho (by simp)
          clear hA
          go_wp2
          go_region_held3 (fun u => (u.cell? ⟨w.heap.size, 0, none⟩ = some (.int .i64 N) ∧ u.cell? ⟨w.heap.size, 1, none⟩ = some (.slice (some ⟨b, off, none⟩) c c)) ∧ (u.cell? ⟨w.heap.size + 1, 0, none⟩ = some (.int .i64 f.1) ∧ u.cell? ⟨w.heap.size + 1, 1, none⟩ = some (.int .i64 f.2)))
            (first | exact S8.cellsSet _ _ | exact HK.out _ S8 | exact HK.out _ T2 | exact HK.out _ S7d)
            ((go_at_call 37; refine HCc.out.mono ?_; rintro e w8 ⟨a', m', c', rfl, hown8, S8⟩; obtain ⟨⟨r0, r1⟩, r2, r3⟩ := S8.out))
          all_goals
            go_wp2
            exact bodyPost_ret (v := .tuple #[.agg #[.int .i64 N, .slice a' m' c'], .bool true]) (by simp [results, Try.results15, go_sem, r0, r1]) rfl (gans_yes S8 HO.out (by omega) hown8.out)
        · have T2b : Below w7.heap.size w7 (w7.alloc (.cells #[.slice (some ⟨b, off, none⟩) p c, .slice (some ⟨b, off + (p + 1) * 2, none⟩) (n - (p + 1)) (c - (p + 1))] 24)).drew := ((Below.refl _ _).alloc (Nat.le_refl _) _).drew
          have T2 := S7.up T2b
          have HCc : Hid (Calls Try.prog 37 #[.slice (some ⟨w7.heap.size, 0, none⟩) 2 2] (w7.alloc (.cells #[.slice (some ⟨b, off, none⟩) p c, .slice (some ⟨b, off + (p + 1) * 2, none⟩) (n - (p + 1)) (c - (p + 1))] 24)).drew
              fun e v => ∃ a' m' c', e = .returned (.slice a' m' c') ∧ Hid (v.ownsRow (w7.heap.size + 1) 28 2 (.slice a' m' c') m' (ecells (outE es f))) ∧ In3 w N (some ⟨b, off, none⟩) n c f v) := by
            have hE2 := HES.out.up T2b
            refine (Concat_any [⟨some ⟨b, off, none⟩, p, c, es.take p⟩, ⟨some ⟨b, off + (p + 1) * 2, none⟩, n - (p + 1), c - (p + 1), es.drop (p + 1)⟩] w7.heap.size 2 rfl (by omega) _ ⟨by simp, fun j q hq => ?_⟩ (by simp [pLen]; omega)).mono fun e v ⟨a', m', c', he, ho, hb⟩ => ⟨a', m', c', he, ?_, T2.up hb⟩
            · rcases j with _ | _ | j
              · simp at hq; subst hq
                exact ⟨by simp [go_sem], hE2.take (k := p) (by omega), fun h => by cases h⟩
              · simp at hq; subst hq
                exact ⟨by simp [go_sem], hE2.drop (k := p + 1) hpn, fun h => by cases h⟩
              · simp at hq
            · have hp : pAll [⟨some ⟨b, off, none⟩, p, c, es.take p⟩, ⟨some ⟨b, off + (p + 1) * 2, none⟩, n - (p + 1), c - (p + 1), es.drop (p + 1)⟩] = outE es f := by rw [HOUT.out]; simp [pAll]
              rw [hp] at ho
              exact own_mono ho (by simp)
          clear hA
          go_wp2
          go_region_held3 (fun u => (u.cell? ⟨w.heap.size, 0, none⟩ = some (.int .i64 N) ∧ u.cell? ⟨w.heap.size, 1, none⟩ = some (.slice (some ⟨b, off, none⟩) n c)) ∧ (u.cell? ⟨w.heap.size + 1, 0, none⟩ = some (.int .i64 f.1) ∧ u.cell? ⟨w.heap.size + 1, 1, none⟩ = some (.int .i64 f.2)))
            (first | exact S8.cellsSet _ _ | exact HK.out _ S8 | exact HK.out _ T2 | exact HK.out _ S7d)
            ((go_at_call 37; refine HCc.out.mono ?_; rintro e w8 ⟨a', m', c', rfl, hown8, S8⟩; obtain ⟨⟨r0, r1⟩, r2, r3⟩ := S8.out))
          all_goals
            go_wp2
            exact bodyPost_ret (v := .tuple #[.agg #[.int .i64 N, .slice a' m' c'], .bool true]) (by simp [results, Try.results15, go_sem, r0, r1]) rfl (gans_yes S8 HO.out (by omega) hown8.out)
end Go.Proofs.Ytfkoddhojcjohaa
