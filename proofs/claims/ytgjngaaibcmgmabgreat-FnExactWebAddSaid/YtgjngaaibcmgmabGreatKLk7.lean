/- The specification's walk where it meets a ring. The specification's TourOf where there is a ring. The vertices of a list of numbers, ascending; a sorted list without its repetitions: pure. Lists of tours in memory; what a right forest is: pure. Right forests, put in order by their least vertices: pure. Forests linked and cut: pure. -/
import Derived.Test.YtgjngaaibcmgmabGreatKEdgeI6
import Derived.Test.YtgjngaaibcmgmabGreatKWr9
import Derived.Test.YtgjngaaibcmgmabGreatKFind6
import Derived.Lib.SlicesCompact
import Derived.Test.YtgjngaaibcmgmabGreatKSRer
namespace Go.Proofs.YtgjngaaibcmgmabGreat
open Go.RowKit

/-- what was seen: each once, vertices; fuel is left; the list is not long -/
structure SkIs (n f m : Nat) (sk : List Int) : Prop where
  nodup : sk.Nodup
  rng : ∀ x ∈ sk, 0 ≤ x ∧ x < (n : Int)
  fuel : n ≤ f + sk.length
  len : m + 1 ≤ 2 * sk.length
theorem SkIs.small {n f m : Nat} {sk : List Int} (h : SkIs n f m sk) (hn : n ≤ 12) : m ≤ 24 := by
  have := nodup_le n sk h.nodup h.rng
  have := h.len
  omega
theorem wk_seen {es : List EdgeV} {n : Nat} (f : Nat) : ∀ (v fr : Int) (seen t sn : List Int), 0 ≤ v → v < (n : Int) → v ∉ seen → seen.Nodup → (∀ x ∈ seen, 0 ≤ x ∧ x < (n : Int)) → wk es n f v fr seen = some (t, sn) → sn.Nodup ∧ (∀ x ∈ sn, 0 ≤ x ∧ x < (n : Int)) ∧ t.length + 2 * seen.length + 1 ≤ 2 * sn.length := by
  induction f with
  | zero => intro v fr seen t sn _ _ _ _ _ h; simp [wk] at h
  | succ f ih =>
    intro v fr seen0 t sn h0 h1 hv hnd hrg h
    rw [wk] at h
    have key : ∀ (rem k : Nat) (out seen : List Int), rem + k = n → (seen.Nodup ∧ (∀ x ∈ seen, 0 ≤ x ∧ x < (n : Int)) ∧ out.length + 2 * seen0.length + 1 ≤ 2 * seen.length) → wkGo (wk es n f) es n v fr rem out seen = some (t, sn) → sn.Nodup ∧ (∀ x ∈ sn, 0 ≤ x ∧ x < (n : Int)) ∧ t.length + 2 * seen0.length + 1 ≤ 2 * sn.length := by
      intro rem
      induction rem with
      | zero =>
        intro k out seen hk hs h
        simp [wkGo] at h
        rw [← h.2, ← h.1]
        exact hs
      | succ rem ihr =>
        intro k out seen hk hs h
        have ek : n - (rem + 1) = k := by omega
        by_cases hc : (k : Int) = fr ∨ mkE v (k : Int) ∉ es
        · rw [wkGo_skip ek hc] at h
          exact ihr (k + 1) out seen (by omega) hs h
        · obtain ⟨hks, p, hp, hgo⟩ := wkGo_go ek (fun e => hc (.inl e)) (Classical.not_not.1 (fun e => hc (.inr e))) h
          obtain ⟨p1, p2, p3⟩ := ih (k : Int) v seen p.1 p.2 (by omega) (by omega) hks hs.1 hs.2.1 hp
          refine ihr (k + 1) _ p.2 (by omega) ⟨p1, p2, ?_⟩ hgo
          have := hs.2.2
          simp
          omega
    refine key n 0 [v] (v :: seen0) (by omega) ⟨List.nodup_cons.2 ⟨hv, hnd⟩, fun x hx => ?_, by simp; omega⟩ h
    rcases List.mem_cons.1 hx with rfl | hx
    · exact ⟨h0, h1⟩
    · exact hrg x hx
theorem SkIs.next {es : List EdgeV} {n f m k : Nat} {v : Int} {sk : List Int} (h : SkIs n f m sk) (hk : (k : Int) ∉ sk) (hkn : k < n) {p : List Int × List Int} (hp : wk es n f (k : Int) v sk = some p) : SkIs n f (m + p.1.length + 1) p.2 := by
  obtain ⟨h1, h2, h3⟩ := wk_seen f (k : Int) v sk p.1 p.2 (by omega) (by omega) hk h.nodup h.rng hp
  have := h.len
  have := h.fuel
  exact ⟨h1, h2, by omega, by omega⟩
set_option maxRecDepth 100000 in
set_option maxHeartbeats 8000000 in
theorem l06Walk_ring (es : List EdgeV) (n ne : Nat) (a : Option Addr) (c gs cs : Nat) (hn : n ≤ 12) (hne : ne ≤ 1000) (f : Nat) : ∀ (v : Nat) (fr : Int) (seen : List Int) (w : World), wk es n f (v : Int) fr seen = none → n ≤ f + seen.length → seen.Nodup → (∀ x ∈ seen, 0 ≤ x ∧ x < (n : Int)) → (v : Int) ∉ seen → v < n → Es w gs a ne es → Arr w gs n seen →
    Calls Tryz.prog 82 #[.int .i64 (n : Int), .slice a ne c, .int .i64 (v : Int), .int .i64 fr, .slice (some ⟨gs, 0, none⟩) n cs] w fun e w' => ∃ a' m c', e = .returned (.tuple #[.slice a' m c', .bool true]) ∧ w.grownBy w' (some gs) := by
  obtain ⟨i0, hi, hz0, hz1, hz2⟩ := info_parts info3i
  induction f with
  | zero =>
    intro v fr seen w _ hf hnd hrg hvs hvn
    have := nodup_le n ((v : Int) :: seen) (List.nodup_cons.2 ⟨hvs, hnd⟩) (fun x hx => by
      rcases List.mem_cons.1 hx with rfl | hx
      · exact ⟨by omega, by omega⟩
      · exact hrg x hx)
    simp at this
    omega
  | succ f ih =>
    intro v fr seen w hwk hf hnd hrg hvs hvn hes harr
    have HI0 : Hid (SkIs n f 1 ((v : Int) :: seen)) := ⟨List.nodup_cons.2 ⟨hvs, hnd⟩, fun x hx => by
      rcases List.mem_cons.1 hx with rfl | hx
      · exact ⟨by omega, by omega⟩
      · exact hrg x hx, by simp; omega, by simp; omega⟩
    clear hnd hrg hvs hf
    have IH := hideIt ih
    clear ih
    rw [wk] at hwk
    have HW := hideIt hwk
    clear hwk
    have HE := hideIt hes
    have hgl := harr.lt
    have b1 : (0 : Int) ≤ (v : Int) := by omega
    have b2 : (v : Int) < (n : Int) := by omega
    have c0 := harr.cell v hvn
    have c1 := harr.frz v
    have H0 : Hid (WSt w gs n (some ⟨w.heap.size, 0, none⟩) 1 1 [(v : Int)] ((v : Int) :: seen) ((w.setCell ⟨gs, v, none⟩ (.bool true)).alloc (.cells #[.int .i64 (v : Int)] 3))) := by
      have hsz : (w.setCell ⟨gs, v, none⟩ (.bool true)).heap.size = w.heap.size := by simp [World.setCell]
      have o1 := World.ownsRow_lit (base := w.heap.size) (e := 3) (size := 1) (w.setCell ⟨gs, v, none⟩ (.bool true)) #[.int .i64 (v : Int)] 1 (by rw [hsz]; exact Nat.le_refl _) (by unfold maxLen; omega) (by simp)
      rw [hsz] at o1
      have hb := (Below.refl _ (w.setCell ⟨gs, v, none⟩ (.bool true))).alloc (Nat.le_refl _) (.cells #[.int .i64 (v : Int)] 3)
      exact ⟨by simpa [ic] using o1, (harr.put v hvn).up hb, grown_trans (grownSet _ gs v _) (grown_of_below hb _)⟩
    clear hes harr
    go_enter Tryz.func82, Tryz.ntmps82
    go_wp2
    go_loopw [12, 13] (fun r i wr => ∃ (k m c1 : Nat) (a1 : Option Addr) (out sk : List Int), k ≤ n ∧ i = .int .i64 (k : Int) ∧ r = .slice a1 m c1 ∧ Hid (wkGo (wk es n f) es n (v : Int) fr (n - k) out sk = none) ∧ Hid (WSt w gs n a1 m c1 out sk wr) ∧ Hid (SkIs n f m sk)) (fun _ i _ => n - (intOf i).toNat)
    case atStart => exact ⟨0, 1, 1, _, [(v : Int)], (v : Int) :: seen, by omega, rfl, rfl, HW, H0, HI0⟩
    case round =>
      obtain ⟨k, m, c2, a1, out, sk, hk, rfl, rfl, HG, HS, HI⟩ := hrel
      clear H0 HW c0 c1 HI0
      have hml := HS.out.len
      have hm24 : m ≤ 24 := HI.out.small hn
      by_cases hlt : k < n
      · have b3 : (0 : Int) ≤ (k : Int) := by omega
        have b4 : (k : Int) < (n : Int) := by omega
        by_cases hvk : (v : Int) < (k : Int)
        · have d1 : decide ((v : Int) < (k : Int)) = true := decide_eq_true hvk
          have HEe : Hid (mkE (v : Int) (k : Int) = ((v : Int), (k : Int))) := by show _ = _; unfold mkE; rw [if_pos hvk]
          have hb1 : Below wr.heap.size wr (wr.alloc (.cells #[.int .i64 (v : Int), .int .i64 (k : Int)] 37)) := (Below.refl _ _).alloc (Nat.le_refl _) _
          have HS1 := hideIt (HS.out.up hb1)
          clear hb1
          obtain ⟨rem, hrem⟩ : ∃ rem, n - k = rem + 1 := ⟨n - k - 1, by omega⟩
          have hrem2 : n - (k + 1) = rem := by omega
          have hrem3 : n - (rem + 1) = k := by omega
          rw [hrem] at HG
          have Hrem := hideIt (And.intro hrem (And.intro hrem2 hrem3))
          clear hrem hrem2 hrem3
          by_cases hkf : (k : Int) = fr
          · have d2 : ((k : Int) == fr) = true := by simpa using hkf
            have HG2 : Hid (wkGo (wk es n f) es n (v : Int) fr (n - (k + 1)) out sk = none) := by show _ = _; rw [Hrem.out.2.1, ← wkGo_skip Hrem.out.2.2 (.inl hkf)]; exact HG.out
            clear HG HS hkf
            go_wp2
            exact ⟨⟨k + 1, m, c2, a1, out, sk, by omega, by go_num, rfl, HG2, HS1, HI⟩, by simp [intOf]; omega⟩
          · have d2 : ((k : Int) == fr) = false := by simpa using hkf
            have HH := hideIt (l05Has_any es ((v : Int), (k : Int)) ne a c (by omega) _ ((HE.out.grown (by omega) HS1.out.grown).mono (by have := HS1.out.grown.size; omega)))
            cases hb : hasB es ((v : Int), (k : Int)) with
            | false =>
              rw [hb] at HH
              have HG2 : Hid (wkGo (wk es n f) es n (v : Int) fr (n - (k + 1)) out sk = none) := by
                show _ = _
                rw [Hrem.out.2.1, ← wkGo_skip Hrem.out.2.2 (.inr (by rw [HEe.out]; exact of_decide_eq_false hb))]
                exact HG.out
              clear HG HS hb
              go_wp2_with (go_at_call 76; refine HH.out.mono ?_; rintro e w3 ⟨rfl, hb3⟩)
              exact ⟨⟨k + 1, m, c2, a1, out, sk, by omega, by go_num, rfl, HG2, hideIt (HS1.out.up hb3), HI⟩, by simp [intOf]; omega⟩
            | true =>
              rw [hb] at HH
              by_cases hks : (k : Int) ∈ sk
              · have HK := hideIt hks
                clear HG hb hks Hrem
                go_wp2_with (go_at_call 76; refine HH.out.mono ?_; rintro e w3 ⟨rfl, hb3⟩; refine Hid.out ?_)
                refine (show ∀ {p : Prop}, p → Hid p from fun h => h) ?_
                have HS3 := hideIt (HS1.out.up hb3)
                have e0 := HS3.out.arr.cell k hlt
                rw [decide_eq_true HK.out] at e0
                clear HS1 HH hb3
                go_wp2
                go_ret2
                exact ⟨a1, m, c2, rfl, HS3.out.grown⟩
              cases hp : wk es n f (k : Int) (v : Int) sk with
              | none =>
                have HP := hideIt hp
                have HK := hideIt hks
                clear HG hb hks Hrem hp
                go_wp2_with (go_at_call 76; refine HH.out.mono ?_; rintro e w3 ⟨rfl, hb3⟩; refine Hid.out ?_)
                refine (show ∀ {p : Prop}, p → Hid p from fun h => h) ?_
                have HS3 := hideIt (HS1.out.up hb3)
                have e0 := HS3.out.arr.cell k hlt
                rw [decide_eq_false HK.out] at e0
                have HR := hideIt (IH.out k (v : Int) sk w3 HP.out HI.out.fuel HI.out.nodup HI.out.rng HK.out hlt (HE.out.grown (by omega) HS3.out.grown) HS3.out.arr)
                clear HS1 HH hb3
                go_wp2_with (go_at_call 82; refine HR.out.mono ?_; rintro e w4 ⟨a4, m4, c4, rfl, hg4⟩)
                go_ret2
                exact ⟨a1, m, c2, rfl, grown_trans HS3.out.grown hg4⟩
              | some p =>
              have hgo : wkGo (wk es n f) es n (v : Int) fr (n - (k + 1)) (out ++ p.1 ++ [(v : Int)]) p.2 = none := by
                have h7 := HG.out
                rw [wkGo, Hrem.out.2.2, if_neg (by rintro (h8 | h8); exact hkf h8; exact h8 (by rw [HEe.out]; exact of_decide_eq_true hb)), if_neg hks, hp] at h7
                rw [Hrem.out.2.1]
                exact h7
              have HI2 := hideIt (HI.out.next hks hlt hp)
              have hln := HI2.out.small hn
              have hp0 := wk_head hp
              have HG2 : Hid (wkGo (wk es n f) es n (v : Int) fr (n - (k + 1)) (out ++ p.1 ++ [(v : Int)]) p.2 = none) := hgo
              have HP := hideIt hp
              have HK := hideIt hks
              clear HG HS hb hp hgo hks Hrem
              go_wp2_with (go_at_call 76; refine HH.out.mono ?_; rintro e w3 ⟨rfl, hb3⟩; refine Hid.out ?_)
              refine (show ∀ {p : Prop}, p → Hid p from fun h => h) ?_
              have HS3 := hideIt (HS1.out.up hb3)
              have e0 := HS3.out.arr.cell k hlt
              rw [decide_eq_false HK.out] at e0
              have HR := hideIt (l06Walk_any es n ne a c gs cs hn hne f k (v : Int) sk w3 p.1 p.2 HP.out (by omega) hlt (HE.out.grown (by omega) HS3.out.grown) HS3.out.arr)
              clear HS1 HH hb3
              go_wp2_with (go_at_call 82; refine HR.out.mono ?_; rintro e w4 ⟨a4, m4, c4, rfl, ho4, hg4, har4⟩; refine Hid.out ?_)
              refine (show ∀ {p : Prop}, p → Hid p from fun h => h) ?_
              have HS4 := hideIt (HS3.out.turned hgl hg4 har4)
              have I4 := Is_of_own ho4
              have hm4 : p.1.length = m4 := I4.1
              obtain ⟨g4, c4', hform, _⟩ := ho4.form (by omega)
              simp at hform
              obtain ⟨rfl, rfl⟩ := hform
              have HN4 := hideIt I4.news
              have HN4l : Hid ((ic p.1).length = m4 * 1) := by show _ = _; rw [ic_len]; omega
              have z4 := HS4.out.grown.size
              clear HS3 HR ho4 hg4 har4 e0 I4
              go_wp2_with (at_builtin; refine wpList_append_own _ rfl _ _ 46 rfl w.heap.size 3 i0 _ 1 8 Tryz.underlying46 hi hz0 hz1 hz2 rfl (by decide) _ _ _ rfl HS4.out.own ⟨g4, 0, none⟩ m4 c4 (ic p.1) rfl HN4l.out HN4.out ic_one (by unfold maxLen; omega) (by omega) z4 ?_)
              intro v5 w5 hown5 hg5 _
              obtain ⟨a5, c5, rfl, S5⟩ := HS4.out.app hgl hown5 hg5
              clear hown5 hg5 HS4 HN4 HN4l
              refine Hid.out ?_
              refine (show ∀ {p : Prop}, p → Hid p from fun h => h) ?_
              have HS5 := hideIt (S5.up ((Below.refl _ w5).alloc (Nat.le_refl _) (.cells #[.int .i64 (v : Int)] 3)))
              have z5 := HS5.out.grown.size
              simp at z5
              clear S5
              go_wp2_with (at_builtin; refine wpList_append_own _ rfl _ _ 46 rfl w.heap.size 3 i0 _ 1 8 Tryz.underlying46 hi hz0 hz1 hz2 rfl (by decide) _ _ _ rfl HS5.out.own ⟨w5.heap.size, 0, none⟩ 1 1 [.int .i64 (v : Int)] rfl rfl (newsI w5 (v : Int)) (by intro u hu; simp at hu; subst hu; rfl) (by unfold maxLen; omega) (by omega) (by simp; omega) ?_)
              intro v6 w6 hown6 hg6 _
              obtain ⟨a6, c6, rfl, S6⟩ := HS5.out.app hgl (xs := [(v : Int)]) hown6 hg6
              have HS6 := hideIt S6
              clear hown6 hg6 HS5 S6
              go_wp2
              exact ⟨⟨k + 1, _, c6, a6, _, p.2, by omega, by go_num, rfl, HG2, HS6, by rw [← hm4]; exact HI2⟩, by simp [intOf]; omega⟩
        · have d1 : decide ((v : Int) < (k : Int)) = false := decide_eq_false hvk
          have HEe : Hid (mkE (v : Int) (k : Int) = ((k : Int), (v : Int))) := by show _ = _; unfold mkE; rw [if_neg hvk]
          have hb1 : Below wr.heap.size wr (wr.alloc (.cells #[.int .i64 (k : Int), .int .i64 (v : Int)] 37)) := (Below.refl _ _).alloc (Nat.le_refl _) _
          have HS1 := hideIt (HS.out.up hb1)
          clear hb1
          obtain ⟨rem, hrem⟩ : ∃ rem, n - k = rem + 1 := ⟨n - k - 1, by omega⟩
          have hrem2 : n - (k + 1) = rem := by omega
          have hrem3 : n - (rem + 1) = k := by omega
          rw [hrem] at HG
          have Hrem := hideIt (And.intro hrem (And.intro hrem2 hrem3))
          clear hrem hrem2 hrem3
          by_cases hkf : (k : Int) = fr
          · have d2 : ((k : Int) == fr) = true := by simpa using hkf
            have HG2 : Hid (wkGo (wk es n f) es n (v : Int) fr (n - (k + 1)) out sk = none) := by show _ = _; rw [Hrem.out.2.1, ← wkGo_skip Hrem.out.2.2 (.inl hkf)]; exact HG.out
            clear HG HS hkf
            go_wp2
            exact ⟨⟨k + 1, m, c2, a1, out, sk, by omega, by go_num, rfl, HG2, HS1, HI⟩, by simp [intOf]; omega⟩
          · have d2 : ((k : Int) == fr) = false := by simpa using hkf
            have HH := hideIt (l05Has_any es ((k : Int), (v : Int)) ne a c (by omega) _ ((HE.out.grown (by omega) HS1.out.grown).mono (by have := HS1.out.grown.size; omega)))
            cases hb : hasB es ((k : Int), (v : Int)) with
            | false =>
              rw [hb] at HH
              have HG2 : Hid (wkGo (wk es n f) es n (v : Int) fr (n - (k + 1)) out sk = none) := by
                show _ = _
                rw [Hrem.out.2.1, ← wkGo_skip Hrem.out.2.2 (.inr (by rw [HEe.out]; exact of_decide_eq_false hb))]
                exact HG.out
              clear HG HS hb
              go_wp2_with (go_at_call 76; refine HH.out.mono ?_; rintro e w3 ⟨rfl, hb3⟩)
              exact ⟨⟨k + 1, m, c2, a1, out, sk, by omega, by go_num, rfl, HG2, hideIt (HS1.out.up hb3), HI⟩, by simp [intOf]; omega⟩
            | true =>
              rw [hb] at HH
              by_cases hks : (k : Int) ∈ sk
              · have HK := hideIt hks
                clear HG hb hks Hrem
                go_wp2_with (go_at_call 76; refine HH.out.mono ?_; rintro e w3 ⟨rfl, hb3⟩; refine Hid.out ?_)
                refine (show ∀ {p : Prop}, p → Hid p from fun h => h) ?_
                have HS3 := hideIt (HS1.out.up hb3)
                have e0 := HS3.out.arr.cell k hlt
                rw [decide_eq_true HK.out] at e0
                clear HS1 HH hb3
                go_wp2
                go_ret2
                exact ⟨a1, m, c2, rfl, HS3.out.grown⟩
              cases hp : wk es n f (k : Int) (v : Int) sk with
              | none =>
                have HP := hideIt hp
                have HK := hideIt hks
                clear HG hb hks Hrem hp
                go_wp2_with (go_at_call 76; refine HH.out.mono ?_; rintro e w3 ⟨rfl, hb3⟩; refine Hid.out ?_)
                refine (show ∀ {p : Prop}, p → Hid p from fun h => h) ?_
                have HS3 := hideIt (HS1.out.up hb3)
                have e0 := HS3.out.arr.cell k hlt
                rw [decide_eq_false HK.out] at e0
                have HR := hideIt (IH.out k (v : Int) sk w3 HP.out HI.out.fuel HI.out.nodup HI.out.rng HK.out hlt (HE.out.grown (by omega) HS3.out.grown) HS3.out.arr)
                clear HS1 HH hb3
                go_wp2_with (go_at_call 82; refine HR.out.mono ?_; rintro e w4 ⟨a4, m4, c4, rfl, hg4⟩)
                go_ret2
                exact ⟨a1, m, c2, rfl, grown_trans HS3.out.grown hg4⟩
              | some p =>
              have hgo : wkGo (wk es n f) es n (v : Int) fr (n - (k + 1)) (out ++ p.1 ++ [(v : Int)]) p.2 = none := by
                have h7 := HG.out
                rw [wkGo, Hrem.out.2.2, if_neg (by rintro (h8 | h8); exact hkf h8; exact h8 (by rw [HEe.out]; exact of_decide_eq_true hb)), if_neg hks, hp] at h7
                rw [Hrem.out.2.1]
                exact h7
              have HI2 := hideIt (HI.out.next hks hlt hp)
              have hln := HI2.out.small hn
              have hp0 := wk_head hp
              have HG2 : Hid (wkGo (wk es n f) es n (v : Int) fr (n - (k + 1)) (out ++ p.1 ++ [(v : Int)]) p.2 = none) := hgo
              have HP := hideIt hp
              have HK := hideIt hks
              clear HG HS hb hp hgo hks Hrem
              go_wp2_with (go_at_call 76; refine HH.out.mono ?_; rintro e w3 ⟨rfl, hb3⟩; refine Hid.out ?_)
              refine (show ∀ {p : Prop}, p → Hid p from fun h => h) ?_
              have HS3 := hideIt (HS1.out.up hb3)
              have e0 := HS3.out.arr.cell k hlt
              rw [decide_eq_false HK.out] at e0
              have HR := hideIt (l06Walk_any es n ne a c gs cs hn hne f k (v : Int) sk w3 p.1 p.2 HP.out (by omega) hlt (HE.out.grown (by omega) HS3.out.grown) HS3.out.arr)
              clear HS1 HH hb3
              go_wp2_with (go_at_call 82; refine HR.out.mono ?_; rintro e w4 ⟨a4, m4, c4, rfl, ho4, hg4, har4⟩; refine Hid.out ?_)
              refine (show ∀ {p : Prop}, p → Hid p from fun h => h) ?_
              have HS4 := hideIt (HS3.out.turned hgl hg4 har4)
              have I4 := Is_of_own ho4
              have hm4 : p.1.length = m4 := I4.1
              obtain ⟨g4, c4', hform, _⟩ := ho4.form (by omega)
              simp at hform
              obtain ⟨rfl, rfl⟩ := hform
              have HN4 := hideIt I4.news
              have HN4l : Hid ((ic p.1).length = m4 * 1) := by show _ = _; rw [ic_len]; omega
              have z4 := HS4.out.grown.size
              clear HS3 HR ho4 hg4 har4 e0 I4
              go_wp2_with (at_builtin; refine wpList_append_own _ rfl _ _ 46 rfl w.heap.size 3 i0 _ 1 8 Tryz.underlying46 hi hz0 hz1 hz2 rfl (by decide) _ _ _ rfl HS4.out.own ⟨g4, 0, none⟩ m4 c4 (ic p.1) rfl HN4l.out HN4.out ic_one (by unfold maxLen; omega) (by omega) z4 ?_)
              intro v5 w5 hown5 hg5 _
              obtain ⟨a5, c5, rfl, S5⟩ := HS4.out.app hgl hown5 hg5
              clear hown5 hg5 HS4 HN4 HN4l
              refine Hid.out ?_
              refine (show ∀ {p : Prop}, p → Hid p from fun h => h) ?_
              have HS5 := hideIt (S5.up ((Below.refl _ w5).alloc (Nat.le_refl _) (.cells #[.int .i64 (v : Int)] 3)))
              have z5 := HS5.out.grown.size
              simp at z5
              clear S5
              go_wp2_with (at_builtin; refine wpList_append_own _ rfl _ _ 46 rfl w.heap.size 3 i0 _ 1 8 Tryz.underlying46 hi hz0 hz1 hz2 rfl (by decide) _ _ _ rfl HS5.out.own ⟨w5.heap.size, 0, none⟩ 1 1 [.int .i64 (v : Int)] rfl rfl (newsI w5 (v : Int)) (by intro u hu; simp at hu; subst hu; rfl) (by unfold maxLen; omega) (by omega) (by simp; omega) ?_)
              intro v6 w6 hown6 hg6 _
              obtain ⟨a6, c6, rfl, S6⟩ := HS5.out.app hgl (xs := [(v : Int)]) hown6 hg6
              have HS6 := hideIt S6
              clear hown6 hg6 HS5 S6
              go_wp2
              exact ⟨⟨k + 1, _, c6, a6, _, p.2, by omega, by go_num, rfl, HG2, HS6, by rw [← hm4]; exact HI2⟩, by simp [intOf]; omega⟩
      · obtain rfl : k = n := by omega
        have := HG.out
        rw [Nat.sub_self, wkGo] at this
        cases this
end Go.Proofs.YtgjngaaibcmgmabGreat
namespace Go.Proofs.YtgjngaaibcmgmabGreat
open Go.RowKit

set_option maxRecDepth 100000 in
set_option maxHeartbeats 4000000 in
theorem sTourOf_ring (es : List EdgeV) (n ne r : Nat) (a : Option Addr) (c : Nat) (hn0 : 1 ≤ n) (hn : n ≤ 12) (hne : ne ≤ 1000) (hr : r < n) (hok : ∀ e ∈ es, eB (n : Int) e = true) (hwk : wk es n n (r : Int) (-1) [] = none) (w : World) (h : Es w w.heap.size a ne es) :
    Calls Tryz.prog 56 #[.int .i64 (n : Int), .slice a ne c, .int .i64 (r : Int)] w fun e w' => ∃ a' c', e = .returned (.tuple #[.slice a' 0 c', .bool false]) ∧ Below w.heap.size w w' := by
  obtain ⟨i0, hi, hz0, hz1, hz2⟩ := info_parts info4b
  have HM : Hid (∀ u : World, (Instr.makeSlice 110 (.int .i64 (n : Int)) (.int .i64 (n : Int))).run Tryz.prog u =
      .ok (.slice (some ⟨u.heap.size, 0, none⟩) n n) (u.alloc (.cells (madeCells #[.bool false] n) 4))) := fun u => by
    have h := run_make (P := Tryz.prog) u 110 4 i0 _ Tryz.underlying110 hi hz0 .i64 .i64 (n : Int) (n : Int) (by omega) (by omega) (by rw [hz2]; omega) (by omega)
    rw [Int.toNat_natCast] at h
    simpa [hz1, Value.cells] using h
  have HE := hideIt h
  have HOk := hideIt hok
  have hlen := h.1
  have HI1 := l01In_any (n : Int) 1 12 w
  rw [decide_eq_true (by omega)] at HI1
  have HI1 := hideIt HI1
  have HI2 := l01In_any (r : Int) 0 ((n : Int) - 1) w
  rw [decide_eq_true (by omega)] at HI2
  have HI2 := hideIt HI2
  have HWk : Hid (∀ u, Below w.heap.size w u → Calls Tryz.prog 82 #[.int .i64 (n : Int), .slice a ne c, .int .i64 (r : Int), .int .i64 (-1), .slice (some ⟨u.heap.size, 0, none⟩) n n] (u.alloc (.cells (madeCells #[.bool false] n) 4)) fun e w' => ∃ a' m c', e = .returned (.tuple #[.slice a' m c', .bool true]) ∧ Below w.heap.size w w') := fun u hu => by
    have hb : Below u.heap.size u (u.alloc (.cells (madeCells #[.bool false] n) 4)) := (Below.refl _ _).alloc (Nat.le_refl _) _
    refine (l06Walk_ring es n ne a c u.heap.size n hn hne n r (-1) [] _ hwk (by simp) (by simp) (by simp) (by simp) hr ((HE.out.up hu).below hb (Nat.le_refl _)) (arr_made u n)).mono ?_
    rintro e w' ⟨a', m, c', he, hg⟩
    exact ⟨a', m, c', he, (hu.trans (hb.mono hu.size)).grown hg (by have := hu.size; simp; omega) (fun j e => by cases e; exact hu.size)⟩
  clear h hok hwk
  go_enter Tryz.func56, Tryz.ntmps56
  go_wp2_with (first | (go_at_call 31; refine HI1.out.mono ?_; clear HI1; rintro e w1 ⟨rfl, hw⟩; have hw' := hw.symm; subst hw'; clear hw) | (go_at_call 31; refine HI2.out.mono ?_; rintro e w1 ⟨rfl, hw⟩; have hw' := hw.symm; subst hw'; clear hw))
  go_loopw [8] (fun i wr => ∃ (k : Nat), k ≤ ne ∧ i = .int .i64 (k : Int) ∧ Good w wr) (fun i _ => ne - (intOf i).toNat)
  case atStart => exact ⟨0, by omega, rfl, Good.refl _⟩
  case round =>
    obtain ⟨k, hk, rfl, hg⟩ := hrel
    by_cases hlt : k < ne
    · rcases HE.out.2 with hz | ⟨b, off, rfl, hbl, hc⟩
      · omega
      · obtain ⟨f, hf⟩ : ∃ f, es[k]? = some f := ⟨es[k]'(by omega), List.getElem?_eq_getElem (by omega)⟩
        have e0 : wr.cell? ⟨b, off + k * 2, none⟩ = some (.int .i64 f.1) := by rw [Below.cell hg hbl]; exact (hc k f hf).1
        have e1 : wr.cell? ⟨b, off + k * 2 + 1, none⟩ = some (.int .i64 f.2) := by rw [Below.cell hg hbl]; exact (hc k f hf).2
        have b1 : (0 : Int) ≤ (k : Int) := by omega
        have b2 : (k : Int) < (ne : Int) := by omega
        have HS := sEdgeOk_any (n : Int) f wr
        rw [HOk.out f (List.mem_of_getElem? hf)] at HS
        have HS := hideIt HS
        clear hc hf
        go_wp2_with (go_at_call 65; refine HS.out.mono ?_; rintro e w1 ⟨rfl, hb1⟩)
        exact ⟨⟨k + 1, by omega, by go_num, hg.up hb1⟩, by simp [intOf]; omega⟩
    · have HW := hideIt (HWk.out wr hg)
      have hmk := HM.out wr
      clear HWk
      go_wp2_with (go_at_call 82; refine HW.out.mono ?_; rintro e w4 ⟨a4, m4, c4, rfl, hb4⟩)
      go_ret2
      exact ⟨_, _, rfl, hb4.alloc hb4.size _⟩
end Go.Proofs.YtgjngaaibcmgmabGreat
namespace Go.Proofs.YtgjngaaibcmgmabGreat
open Go.Lib

/-- the vertices below k that stand in t, ascending -/
def vsK (t : List Int) (k : Nat) : List Int := ((List.range k).map fun j : Nat => (j : Int)).filter fun x => decide (x ∈ t)
/-- the vertices that stand in t, ascending -/
def vsL (t : List Int) : List Int := vsK t 12
theorem vsK_zero (t : List Int) : vsK t 0 = [] := by simp [vsK]
theorem vsK_yes {t : List Int} {k : Nat} (h : (k : Int) ∈ t) : vsK t (k + 1) = vsK t k ++ [(k : Int)] := by simp [vsK, List.range_succ, h]
theorem vsK_no {t : List Int} {k : Nat} (h : (k : Int) ∉ t) : vsK t (k + 1) = vsK t k := by simp [vsK, List.range_succ, h]
theorem vsK_len (t : List Int) (k : Nat) : (vsK t k).length ≤ k := by
  have := List.length_filter_le (fun x : Int => decide (x ∈ t)) ((List.range k).map fun j : Nat => (j : Int))
  simpa [vsK] using this
theorem vsL_len (t : List Int) : (vsL t).length ≤ 12 := vsK_len t 12
theorem vsL_mem (t : List Int) (x : Int) : x ∈ vsL t ↔ vB x = true ∧ x ∈ t := by
  simp only [vsL, vsK, List.mem_filter, List.mem_map, List.mem_range, vB, decide_eq_true_eq]
  constructor
  · rintro ⟨⟨j, hj, rfl⟩, h⟩
    exact ⟨by simp; omega, h⟩
  · rintro ⟨h1, h2⟩
    exact ⟨⟨x.toNat, by omega, by omega⟩, h2⟩
theorem vsK_asc (t : List Int) (k : Nat) : (vsK t k).Pairwise (· < ·) := by
  refine List.Pairwise.filter _ ?_
  rw [List.pairwise_map]
  exact List.Pairwise.imp (fun h => by omega) (List.pairwise_lt_range (n := k))
/-- two ascending lists with the same members are one -/
theorem asc_ext : ∀ {a b : List Int}, a.Pairwise (· < ·) → b.Pairwise (· < ·) → (∀ x, x ∈ a ↔ x ∈ b) → a = b
  | [], [], _, _, _ => rfl
  | [], y :: b, _, _, h => by have := (h y).2 (by simp); simp at this
  | x :: a, [], _, _, h => by have := (h x).1 (by simp); simp at this
  | x :: a, y :: b, ha, hb, h => by
    rw [List.pairwise_cons] at ha hb
    have hxy : x = y := by
      have h1 := (h x).1 (by simp)
      have h2 := (h y).2 (by simp)
      rcases List.mem_cons.1 h1 with h1 | h1
      · exact h1
      · rcases List.mem_cons.1 h2 with h2 | h2
        · exact h2.symm
        · have := hb.1 x h1; have := ha.1 y h2; omega
    subst hxy
    have : a = b := asc_ext ha.2 hb.2 fun z => by
      have hz := h z
      simp only [List.mem_cons] at hz
      constructor
      · intro h3
        rcases hz.1 (.inr h3) with h4 | h4
        · have := ha.1 z h3; omega
        · exact h4
      · intro h3
        rcases hz.2 (.inr h3) with h4 | h4
        · have := hb.1 z h3; omega
        · exact h4
    rw [this]
theorem comp_asc (d : Array Int) (hs : ∀ i j, i ≤ j → j < d.size → d[i]! ≤ d[j]!) : ∀ m, m ≤ d.size → (compactUpTo d m).Pairwise (· < ·) ∧ ∀ x, x ∈ compactUpTo d m ↔ ∃ j, j < m ∧ d[j]! = x
  | 0, _ => by simp [compactUpTo]
  | m + 1, hm => by
    obtain ⟨h1, h2⟩ := comp_asc d hs m (by omega)
    rw [compactUpTo_succ]
    by_cases hk : keeps d m = true
    · rw [if_pos hk]
      constructor
      · rw [List.pairwise_append]
        refine ⟨h1, by simp, fun x hx y hy => ?_⟩
        obtain ⟨j, hj, rfl⟩ := (h2 x).1 hx
        simp only [List.mem_singleton] at hy
        subst hy
        simp only [keeps, decide_eq_true_eq] at hk
        rcases hk with hk | hk
        · omega
        · have a1 := hs j (m - 1) (by omega) (by omega)
          have a2 := hs (m - 1) m (by omega) (by omega)
          omega
      · intro x
        simp only [List.mem_append, h2, List.mem_singleton]
        constructor
        · rintro (⟨j, hj, rfl⟩ | rfl)
          · exact ⟨j, by omega, rfl⟩
          · exact ⟨m, by omega, rfl⟩
        · rintro ⟨j, hj, rfl⟩
          by_cases e : j = m
          · exact .inr (by rw [e])
          · exact .inl ⟨j, by omega, rfl⟩
    · rw [if_neg hk, List.append_nil]
      refine ⟨h1, fun x => ?_⟩
      rw [h2]
      have hk' : m ≠ 0 ∧ d[m]! = d[m - 1]! := by
        simp only [keeps, decide_eq_true_eq] at hk
        exact ⟨fun e => hk (.inl e), Classical.not_not.1 (fun e => hk (.inr e))⟩
      constructor
      · rintro ⟨j, hj, rfl⟩; exact ⟨j, by omega, rfl⟩
      · rintro ⟨j, hj, rfl⟩
        by_cases e : j = m
        · exact ⟨m - 1, by omega, by rw [e, hk'.2]⟩
        · exact ⟨j, by omega, rfl⟩
/-- sorted, without repetitions, without what is no vertex -/
def vsI (t : List Int) : List Int := (compactUpTo (t.mergeSort fun x y => decide (x ≤ y)).toArray (t.mergeSort fun x y => decide (x ≤ y)).toArray.size).filter fun x => !(!vB x)
theorem vsI_eq (t : List Int) : vsI t = vsL t := by
  have hp : (t.mergeSort fun x y => decide (x ≤ y)).Pairwise (fun x y => decide (x ≤ y) = true) := List.pairwise_mergeSort (fun a b c h1 h2 => by simp at h1 h2 ⊢; omega) (fun a b => by simp; omega) t
  have hm := fun x => (List.mergeSort_perm t fun x y : Int => decide (x ≤ y)).mem_iff (a := x)
  unfold vsI
  generalize (t.mergeSort fun x y => decide (x ≤ y)) = s at hp hm ⊢
  have hs : ∀ i j, i ≤ j → j < s.toArray.size → s.toArray[i]! ≤ s.toArray[j]! := by
    intro i j hij hj
    have hj' : j < s.length := by simpa using hj
    by_cases e : i = j
    · rw [e]; exact Int.le_refl _
    · have := List.pairwise_iff_getElem.1 hp i j (by omega) hj' (by omega)
      simp at this
      simpa [getElem!_pos, hj', show i < s.length by omega] using this
  obtain ⟨h1, h2⟩ := comp_asc s.toArray hs s.toArray.size (Nat.le_refl _)
  refine asc_ext (List.Pairwise.filter _ h1) (vsK_asc t 12) fun x => ?_
  rw [vsL_mem, List.mem_filter, h2]
  have h3 : (∃ j, j < s.toArray.size ∧ s.toArray[j]! = x) ↔ x ∈ t := by
    rw [← hm x]
    constructor
    · rintro ⟨j, hj, rfl⟩
      have hj' : j < s.length := by simpa using hj
      simp [hj']
    · intro hx
      obtain ⟨j, hj, e⟩ := List.getElem_of_mem hx
      exact ⟨j, by simpa using hj, by simp [hj, e]⟩
  rw [h3]
  simp
  exact And.comm
end Go.Proofs.YtgjngaaibcmgmabGreat
namespace Go.Proofs.YtgjngaaibcmgmabGreat
open Go.RowKit

/-- a list of lists of numbers stands at a -/
def Ts (w : World) (B : Nat) (a : Option Addr) (n : Nat) (ts : List (List Int)) : Prop :=
  ts.length = n ∧ (n = 0 ∨ ∃ b off, a = some ⟨b, off, none⟩ ∧ b < B ∧ ∀ (j : Nat) (t : List Int), ts[j]? = some t →
    ∃ (a' : Option Addr) (c' : Nat), w.cell? ⟨b, off + j, none⟩ = some (.slice a' t.length c') ∧ Is w B a' t.length t ∧ t.length ≤ c')
theorem Ts.below {w w' : World} {B C : Nat} {a : Option Addr} {n : Nat} {ts : List (List Int)} (h : Ts w B a n ts) (hb : Below C w w') (hB : B ≤ C) : Ts w' B a n ts := by
  refine ⟨h.1, h.2.imp id ?_⟩
  rintro ⟨b, off, ha, hbl, hc⟩
  refine ⟨b, off, ha, hbl, fun j t ht => ?_⟩
  obtain ⟨a', c', h1, h2, h3⟩ := hc j t ht
  exact ⟨a', c', by rw [hb.cell (p := ⟨b, _, none⟩) (by show b < C; omega)]; exact h1, h2.below hb hB, h3⟩
theorem Ts.mono {w : World} {B C : Nat} {a : Option Addr} {n : Nat} {ts : List (List Int)} (h : Ts w B a n ts) (hB : B ≤ C) : Ts w C a n ts := by
  refine ⟨h.1, h.2.imp id ?_⟩
  rintro ⟨b, off, ha, hbl, hc⟩
  refine ⟨b, off, ha, by omega, fun j t ht => ?_⟩
  obtain ⟨a', c', h1, h2, h3⟩ := hc j t ht
  exact ⟨a', c', h1, h2.mono hB, h3⟩
theorem Ts.up {w w' : World} {a : Option Addr} {n : Nat} {ts : List (List Int)} (h : Ts w w.heap.size a n ts) (hb : Below w.heap.size w w') : Ts w' w'.heap.size a n ts := (h.below hb (Nat.le_refl _)).mono hb.size
theorem Ts.at {w : World} {B b off n : Nat} {ts : List (List Int)} (h : Ts w B (some ⟨b, off, none⟩) n ts) {j : Nat} {t : List Int} (ht : ts[j]? = some t) :
    ∃ (a' : Option Addr) (c' : Nat), w.cell? ⟨b, off + j, none⟩ = some (.slice a' t.length c') ∧ Is w B a' t.length t ∧ t.length ≤ c' := by
  have hj := (List.getElem?_eq_some_iff.1 ht).1
  have hn := h.1
  rcases h.2 with h0 | ⟨b', off', hb, _, hc⟩
  · omega
  · simp at hb
    obtain ⟨rfl, rfl⟩ := hb
    exact hc j t ht

/-- the least vertex of a tour -/
def mnV (t : List Int) : Int := (vsL t).headD 0
/-- the tour at i is right beside those before it -/
def FAt (N : Int) (ts : List (List Int)) (i : Nat) : Prop := ∀ t, ts[i]? = some t →
  tB t = true ∧ (∀ x ∈ t, x < N) ∧ (∀ j s, j + 1 = i → ts[j]? = some s → mnV s < mnV t) ∧ ∀ k s, k < i → ts[k]? = some s → ∀ x ∈ t, x ∉ s
/-- the vertices of the first k tours, counted -/
def cntV (ts : List (List Int)) (k : Nat) : Nat := ((ts.take k).map fun t => (vsL t).length).sum
/-- N vertices and these tours are a right forest -/
def FP (N : Int) (ts : List (List Int)) : Prop := 1 ≤ N ∧ N ≤ 12 ∧ ts.length ≤ 12 ∧ (∀ i, FAt N ts i) ∧ (cntV ts ts.length : Int) = N
theorem cntV_zero (ts : List (List Int)) : cntV ts 0 = 0 := by simp [cntV]
theorem cntV_succ {ts : List (List Int)} {k : Nat} {t : List Int} (h : ts[k]? = some t) : cntV ts (k + 1) = cntV ts k + (vsL t).length := by
  unfold cntV
  rw [List.take_add_one, h]
  simp
theorem cntV_le (ts : List (List Int)) (k : Nat) : cntV ts k ≤ 12 * k := by
  induction k with
  | zero => simp [cntV]
  | succ k ih =>
    cases h : ts[k]? with
    | none =>
      have : ts.take (k + 1) = ts.take k := by rw [List.take_add_one, h]; simp
      unfold cntV at ih ⊢
      rw [this]
      omega
    | some t =>
      rw [cntV_succ h]
      have := vsL_len t
      omega
theorem vs_mem_of {t : List Int} (hB : tB t = true) {x : Int} : x ∈ vsL t ↔ x ∈ t := by
  rw [vsL_mem]
  exact ⟨fun h => h.2, fun h => ⟨((tB_iff t).1 hB).1 x h, h⟩⟩
theorem tB_pos {t : List Int} (hB : tB t = true) : 0 < t.length := by
  obtain ⟨_, x, s, h⟩ := (tB_iff t).1 hB
  cases t with
  | nil => simp [trun] at h
  | cons a t => simp
theorem vs_pos {t : List Int} (hB : tB t = true) : 0 < (vsL t).length := by
  have := tB_pos hB
  exact List.length_pos_of_mem ((vs_mem_of hB).2 (List.getElem_mem this))
theorem vs_last {t : List Int} (hB : tB t = true) {N x : Int} (hx : (vsL t)[(vsL t).length - 1]? = some x) : (∀ y ∈ t, y < N) ↔ x < N := by
  constructor
  · exact fun h => h x ((vs_mem_of hB).1 (List.mem_of_getElem? hx))
  · intro h y hy
    obtain ⟨p, hp⟩ := List.mem_iff_getElem?.1 ((vs_mem_of hB).2 hy)
    obtain ⟨p0, p1⟩ := List.getElem?_eq_some_iff.1 hp
    obtain ⟨q0, q1⟩ := List.getElem?_eq_some_iff.1 hx
    by_cases e : p = (vsL t).length - 1
    · subst e
      rw [p1] at q1
      omega
    · have := List.pairwise_iff_getElem.1 (vsK_asc t 12) p ((vsL t).length - 1) p0 q0 (by omega)
      rw [show (vsK t 12)[p]'p0 = y from p1, show (vsK t 12)[(vsL t).length - 1]'q0 = x from q1] at this
      omega
theorem mn_first {t : List Int} {x : Int} (hx : (vsL t)[0]? = some x) : mnV t = x := by
  unfold mnV
  cases h : vsL t with
  | nil => rw [h] at hx; simp at hx
  | cons a l => rw [h] at hx; simp at hx; simpa using hx
end Go.Proofs.YtgjngaaibcmgmabGreat
namespace Go.Proofs.YtgjngaaibcmgmabGreat
open Go.RowKit

/-- nothing in common -/
def Apart (s t : List Int) : Prop := ∀ x ∈ s, x ∉ t
theorem Apart.symm {s t : List Int} (h : Apart s t) : Apart t s := fun x hx hs => h x hs hx
/-- how many vertices a list of tours has -/
def cnt (ts : List (List Int)) : Nat := (ts.map fun t => (vsL t).length).sum
theorem cntV_all (ts : List (List Int)) : cntV ts ts.length = cnt ts := by unfold cntV cnt; rw [List.take_length]
theorem cnt_perm {a b : List (List Int)} (h : a.Perm b) : cnt a = cnt b := (h.map _).sum_nat
/-- tours side by side, in whatever order -/
def FQ (N : Int) (ts : List (List Int)) : Prop := (∀ t ∈ ts, tB t = true ∧ ∀ x ∈ t, x < N) ∧ ts.Pairwise Apart ∧ (cnt ts : Int) = N
theorem FQ.perm {N : Int} {a b : List (List Int)} (h : FQ N a) (p : a.Perm b) : FQ N b :=
  ⟨fun t ht => h.1 t (p.mem_iff.2 ht), p.pairwise h.2.1 fun h => h.symm, by rw [← cnt_perm p]; exact h.2.2⟩
theorem cnt_le {ts : List (List Int)} (h : ∀ t ∈ ts, tB t = true) : ts.length ≤ cnt ts := by
  induction ts with
  | nil => simp [cnt]
  | cons t r ih =>
    have h1 := vs_pos (h t (by simp))
    have h2 := ih fun s hs => h s (by simp [hs])
    simp only [cnt, List.map_cons, List.sum_cons, List.length_cons] at h2 ⊢
    omega
/-- neighbours ascend: all ascend -/
theorem asc_all {f : List Int → Int} {ts : List (List Int)} (h : ∀ i t j s, ts[i]? = some t → j + 1 = i → ts[j]? = some s → f s < f t) : ts.Pairwise fun s t => f s < f t := by
  rw [List.pairwise_iff_getElem]
  intro i j hi hj hij
  obtain ⟨d, rfl⟩ : ∃ d, j = i + d + 1 := ⟨j - i - 1, by omega⟩
  clear hij
  induction d with
  | zero => exact h (i + 1) _ i _ (List.getElem?_eq_getElem hj) rfl (List.getElem?_eq_getElem hi)
  | succ d ih =>
    have h1 := ih (by omega)
    have h2 := h (i + (d + 1) + 1) _ (i + d + 1) _ (List.getElem?_eq_getElem hj) rfl (List.getElem?_eq_getElem (by omega))
    omega
theorem FP_iff (N : Int) (ts : List (List Int)) : FP N ts ↔ 1 ≤ N ∧ N ≤ 12 ∧ FQ N ts ∧ ts.Pairwise fun s t => mnV s < mnV t := by
  constructor
  · rintro ⟨h1, h2, _, h4, h5⟩
    rw [cntV_all] at h5
    refine ⟨h1, h2, ⟨fun t ht => ?_, ?_, h5⟩, asc_all fun i t j s ht hj hs => (h4 i t ht).2.2.1 j s hj hs⟩
    · obtain ⟨i, hi⟩ := List.mem_iff_getElem?.1 ht
      exact ⟨(h4 i t hi).1, (h4 i t hi).2.1⟩
    · rw [List.pairwise_iff_getElem]
      intro i j hi hj hij
      exact Apart.symm fun x hx => (h4 j _ (List.getElem?_eq_getElem hj)).2.2.2 i _ hij (List.getElem?_eq_getElem hi) x hx
  · rintro ⟨h1, h2, ⟨h3, h4, h5⟩, h6⟩
    have h7 := cnt_le fun t ht => (h3 t ht).1
    refine ⟨h1, h2, by omega, fun i t ht => ?_, by rw [cntV_all]; exact h5⟩
    obtain ⟨hi, e⟩ := List.getElem?_eq_some_iff.1 ht
    have hm := h3 t (List.mem_of_getElem? ht)
    refine ⟨hm.1, hm.2, fun j s hj hs => ?_, fun k s hk hs x hx hxs => ?_⟩
    · obtain ⟨hj2, e2⟩ := List.getElem?_eq_some_iff.1 hs
      have := List.pairwise_iff_getElem.1 h6 j i hj2 hi (by omega)
      rw [e, e2] at this
      exact this
    · obtain ⟨hk2, e2⟩ := List.getElem?_eq_some_iff.1 hs
      have := List.pairwise_iff_getElem.1 h4 k i hk2 hi hk
      rw [e, e2] at this
      exact this x hxs hx
/-- those with least vertex below k, in order -/
def srtK (l : List (List Int)) : Nat → List (List Int)
  | 0 => []
  | k + 1 => srtK l k ++ l.filter fun t => decide (mnV t = (k : Int))
theorem srtK_mem (l : List (List Int)) (k : Nat) (t : List Int) : t ∈ srtK l k ↔ t ∈ l ∧ ∃ j, j < k ∧ mnV t = ((j : Nat) : Int) := by
  induction k with
  | zero => simp [srtK]
  | succ k ih =>
    simp only [srtK, List.mem_append, ih, List.mem_filter, decide_eq_true_eq]
    constructor
    · rintro (⟨h, j, hj, e⟩ | ⟨h, e⟩)
      · exact ⟨h, j, by omega, e⟩
      · exact ⟨h, k, by omega, e⟩
    · rintro ⟨h, j, hj, e⟩
      by_cases hk : j = k
      · subst hk
        exact .inr ⟨h, e⟩
      · exact .inl ⟨h, j, by omega, e⟩
theorem srtK_cons (t : List Int) (l : List (List Int)) (k : Nat) {j : Nat} (hj : j < k) (e : mnV t = (j : Int)) : (srtK (t :: l) k).Perm (t :: srtK l k) := by
  induction k with
  | zero => omega
  | succ k ih =>
    simp only [srtK]
    by_cases hk : j = k
    · subst hk
      have h0 : srtK (t :: l) j = srtK l j := by
        have : ∀ i, i ≤ j → srtK (t :: l) i = srtK l i := by
          intro i
          induction i with
          | zero => intro _; rfl
          | succ i ih2 =>
            intro hi
            have hne : ¬ mnV t = (i : Int) := by rw [e]; omega
            simp only [srtK]
            rw [ih2 (by omega), List.filter_cons_of_neg (by simpa using hne)]
        exact this j (Nat.le_refl _)
      rw [h0, List.filter_cons_of_pos (by simpa using e)]
      exact List.perm_middle
    · have hne : ¬ mnV t = (k : Int) := by rw [e]; omega
      rw [List.filter_cons_of_neg (by simpa using hne)]
      exact (ih (by omega)).append_right _
theorem srtK_perm {l : List (List Int)} {k : Nat} (h : ∀ t ∈ l, ∃ j, j < k ∧ mnV t = ((j : Nat) : Int)) : (srtK l k).Perm l := by
  induction l with
  | nil =>
    have : ∀ i, srtK [] i = [] := by
      intro i
      induction i with
      | zero => rfl
      | succ i ih => simp [srtK, ih]
    rw [this]
  | cons t l ih =>
    obtain ⟨j, hj, e⟩ := h t (by simp)
    exact (srtK_cons t l k hj e).trans ((ih fun s hs => h s (by simp [hs])).cons t)
theorem mn_mem {t : List Int} (hB : tB t = true) : mnV t ∈ t := by
  have h := vs_pos hB
  have hx : (vsL t)[0]? = some ((vsL t)[0]'h) := List.getElem?_eq_getElem h
  rw [mn_first hx]
  exact (vs_mem_of hB).1 (List.getElem_mem h)
theorem mn_range {t : List Int} (hB : tB t = true) {N : Nat} (hx : ∀ x ∈ t, x < (N : Int)) : ∃ j, j < N ∧ mnV t = ((j : Nat) : Int) := by
  have h1 := mn_mem hB
  have h2 := hx _ h1
  have h3 := ((tB_iff t).1 hB).1 _ h1
  unfold vB at h3
  have h3 := of_decide_eq_true h3
  exact ⟨(mnV t).toNat, by omega, by omega⟩
theorem srtK_asc {l : List (List Int)} (h : l.Pairwise fun s t => mnV s ≠ mnV t) (k : Nat) : (srtK l k).Pairwise fun s t => mnV s < mnV t := by
  induction k with
  | zero => exact List.Pairwise.nil
  | succ k ih =>
    simp only [srtK]
    rw [List.pairwise_append]
    refine ⟨ih, ?_, fun s hs t ht => ?_⟩
    · have h2 : (l.filter fun t => decide (mnV t = (k : Int))).Pairwise fun s t => mnV s ≠ mnV t := h.filter _
      refine h2.imp_of_mem fun hs ht hne => ?_
      have e1 := of_decide_eq_true (List.mem_filter.1 hs).2
      have e2 := of_decide_eq_true (List.mem_filter.1 ht).2
      exact absurd (e1.trans e2.symm) hne
    · obtain ⟨_, j, hj, e⟩ := (srtK_mem l k s).1 hs
      have e2 := of_decide_eq_true (List.mem_filter.1 ht).2
      omega
theorem mn_apart {s t : List Int} (hs : tB s = true) (ht : tB t = true) (h : Apart s t) : mnV s ≠ mnV t := fun e => h _ (mn_mem hs) (e ▸ mn_mem ht)
/-- tours side by side, put in order, are a right forest -/
theorem FP_srt {N : Nat} {l : List (List Int)} (h1 : 1 ≤ N) (h2 : N ≤ 12) (h : FQ (N : Int) l) : FP (N : Int) (srtK l N) := by
  have hp : (srtK l N).Perm l := srtK_perm fun t ht => mn_range (h.1 t ht).1 (h.1 t ht).2
  refine (FP_iff _ _).2 ⟨by omega, by omega, h.perm hp.symm, srtK_asc ?_ N⟩
  exact h.2.1.imp_of_mem fun hs ht hap => mn_apart (h.1 _ hs).1 (h.1 _ ht).1 hap
/-- a right forest is in order already, and two in order with the same tours are one -/
theorem asc_uniq {a b : List (List Int)} (ha : a.Pairwise fun s t => mnV s < mnV t) (hb : b.Pairwise fun s t => mnV s < mnV t) (hp : a.Perm b) : a = b :=
  List.Perm.eq_of_pairwise (fun _ _ _ _ h1 h2 => by omega) ha hb hp
end Go.Proofs.YtgjngaaibcmgmabGreat
namespace Go.Proofs.YtgjngaaibcmgmabGreat
open Go.RowKit

theorem nd_sub {α : Type} [DecidableEq α] : ∀ {a b : List α}, a.Nodup → (∀ x ∈ a, x ∈ b) → a.length ≤ b.length
  | [], _, _, _ => by simp
  | x :: a, b, hn, h => by
    have hn' := List.nodup_cons.1 hn
    have h1 := nd_sub (b := b.erase x) hn'.2 fun y hy => by
      have hne : y ≠ x := fun e => hn'.1 (e ▸ hy)
      exact (List.mem_erase_of_ne hne).2 (h y (by simp [hy]))
    have h2 := List.length_erase_of_mem (h x (by simp))
    have h3 := List.length_pos_of_mem (h x (by simp))
    simp only [List.length_cons]
    omega
theorem vs_nodup (t : List Int) : (vsL t).Nodup := (vsK_asc t 12).imp fun h e => by omega
theorem cnt_two {a b J : List Int} (hap : Apart a b) (h : ∀ x, x ∈ J ↔ x ∈ a ∨ x ∈ b) : (vsL J).length = (vsL a).length + (vsL b).length := by
  have hn : (vsL a ++ vsL b).Nodup := by
    rw [List.nodup_append]
    exact ⟨vs_nodup a, vs_nodup b, fun x hx y hy e => hap x ((vsL_mem a x).1 hx).2 (e ▸ ((vsL_mem b y).1 hy).2)⟩
  have hm : ∀ x, x ∈ vsL J ↔ x ∈ vsL a ++ vsL b := fun x => by
    rw [List.mem_append, vsL_mem, vsL_mem, vsL_mem, h]
    constructor
    · rintro ⟨h1, h2 | h2⟩
      · exact .inl ⟨h1, h2⟩
      · exact .inr ⟨h1, h2⟩
    · rintro (⟨h1, h2⟩ | ⟨h1, h2⟩)
      · exact ⟨h1, .inl h2⟩
      · exact ⟨h1, .inr h2⟩
  have h1 := nd_sub (vs_nodup J) fun x hx => (hm x).1 hx
  have h2 := nd_sub hn fun x hx => (hm x).2 hx
  rw [List.length_append] at h1 h2
  omega

/-- two tours side by side, joined: what comes of it, and where it goes from u to v and back -/
structure JoIs (a b : List Int) (u v : Int) (J : List Int) : Prop where
  ok : tB J = true
  len : J.length = a.length + b.length + 1
  mem : ∀ x, x ∈ J ↔ x ∈ a ∨ x ∈ b
  step : ∃ k : Nat, J[k]? = some u ∧ J[k + 1]? = some v
  back : ∃ r, ReIs b v r ∧ spO J u v = (a, r, true)
theorem jo_two {a b : List Int} {u v : Int} (ha : tB a = true) (hb : tB b = true) (hap : Apart a b) (hu : u ∈ a) (hv : v ∈ b) : ∃ J, joO a u b v = some J ∧ JoIs a b u v J := by
  obtain ⟨k, hk, hkl, hkp⟩ := lst_mem hu
  obtain ⟨r, hr, HR⟩ := re_is hb hv
  obtain ⟨_, _, er⟩ := reO_some hr
  have hapr : ∀ x ∈ r, x ∉ a := fun x hx hxa => hap x hxa ((HR.mem x).1 hx)
  have hcom : comB a b = false := comB_no fun j hj => by
    rw [comP_at (List.getElem?_eq_getElem hj)]
    exact decide_eq_false fun hx => hap _ (List.getElem_mem hj) hx
  obtain ⟨j1, j2, j3⟩ := join_is ha HR.ok hapr hkp
  have hrl : 0 < r.length := tB_pos HR.ok
  have hl1 : (a.take (k + 1)).length = k + 1 := by simp; omega
  have g1 : (joT a k r)[k]? = some u := by
    unfold joT
    rw [List.getElem?_append_left (by omega), List.getElem?_take_of_lt (by omega)]
    exact hkp
  have g2 : (joT a k r)[k + 1]? = some v := by
    unfold joT
    rw [List.getElem?_append_right (by omega), hl1, Nat.sub_self, List.getElem?_append_left hrl]
    exact HR.fst
  refine ⟨joT a k r, ?_, j1, by rw [j2, HR.len], fun x => by rw [j3, HR.mem], ⟨k, g1, g2⟩, r, HR, ?_⟩
  · unfold joO
    rw [if_pos ⟨⟨ha, hb⟩, ⟨hu, hv⟩, hcom⟩, hk, ← er]
    rfl
  · have hlow : ∀ i x, i ≤ k → (joT a k r)[i]? = some x → x ∈ a := fun i x hi hx => by
      unfold joT at hx
      rw [List.getElem?_append_left (by omega)] at hx
      exact List.mem_of_mem_take (List.mem_of_getElem? hx)
    have hmid : ∀ i x, k < i → i ≤ k + r.length → (joT a k r)[i]? = some x → x ∈ r := fun i x h1 h2 hx => by
      unfold joT at hx
      rw [List.getElem?_append_right (by omega), List.getElem?_append_left (by omega)] at hx
      exact List.mem_of_getElem? hx
    have hhigh : ∀ i x, k + r.length < i → (joT a k r)[i]? = some x → x ∈ a := fun i x h1 hx => by
      unfold joT at hx
      rw [List.getElem?_append_right (by omega), List.getElem?_append_right (by omega)] at hx
      exact List.mem_of_mem_drop (List.mem_of_getElem? hx)
    have hva : v ∉ a := fun h => hap v h hv
    have hur : u ∉ r := fun h => hapr u h hu
    have hone : ∀ i, (joT a k r)[i]? = some u → (joT a k r)[i + 1]? = some v → i = k := fun i h1 h2 => by
      by_cases c1 : i < k
      · exact absurd (hlow (i + 1) v (by omega) h2) hva
      · by_cases c2 : i = k
        · exact c2
        · by_cases c3 : i ≤ k + r.length
          · exact absurd (hmid i u (by omega) c3 h1) hur
          · exact absurd (hhigh (i + 1) v (by omega) h2) hva
    have htwo : ∀ i, (joT a k r)[i]? = some v → (joT a k r)[i + 1]? = some u → i = k + r.length := fun i h1 h2 => by
      by_cases c1 : i ≤ k
      · exact absurd (hlow i v c1 h1) hva
      · by_cases c2 : i < k + r.length
        · exact absurd (hmid (i + 1) u (by omega) (by omega) h2) hur
        · by_cases c3 : i = k + r.length
          · exact c3
          · exact absurd (hhigh i v (by omega) h1) hva
    have e1 : goI (joT a k r) u v = (k : Int) := by
      rcases go_at (t := joT a k r) (u := u) (v := v) with ⟨k1, e1, _, a1, a2, _⟩ | ⟨_, hn⟩
      · rw [e1, hone k1 a1 a2]
      · have := hn k (List.getElem?_eq_some_iff.1 g2).1
        simp [goP, g1, g2] at this
    have e2 : goI (joT a k r) v u = ((k + r.length : Nat) : Int) := by
      obtain ⟨p, e2, _, _⟩ := go_both j1 e1
      rcases go_at (t := joT a k r) (u := v) (v := u) with ⟨k2, e3, _, b1, b2, _⟩ | ⟨e3, _⟩
      · rw [e3, htwo k2 b1 b2]
      · omega
    unfold spO
    rw [if_pos ⟨j1, by rw [e1]; omega⟩, e1, e2, show (min (k : Int) ((k + r.length : Nat) : Int)).toNat = k by omega, show (max (k : Int) ((k + r.length : Nat) : Int)).toNat = k + r.length by omega]
    unfold spT
    have x1 : (joT a k r).take (k + 1) = a.take (k + 1) := by
      unfold joT
      rw [List.take_append_of_le_length (by omega), List.take_take, Nat.min_self]
    have x2 : (joT a k r).drop (k + r.length + 2) = a.drop (k + 1) := by
      unfold joT
      rw [List.drop_append, hl1, List.drop_append, List.drop_of_length_le (by omega), List.drop_of_length_le (by omega), List.drop_drop, List.nil_append, List.nil_append]
      congr 1
      omega
    have x3 : ((joT a k r).take (k + r.length + 1)).drop (k + 1) = r := by
      unfold joT
      rw [List.take_append, hl1, List.take_of_length_le (by omega), show k + r.length + 1 - (k + 1) = r.length by omega, List.take_append_of_le_length (Nat.le_refl _), List.take_of_length_le (Nat.le_refl _), List.drop_append, hl1, List.drop_of_length_le (by omega)]
      simp
    rw [x1, x2, x3, List.take_append_drop]

/-- those of the first k tours whose place is not in out -/
def woK (ts : List (List Int)) (out : List Nat) : Nat → List (List Int)
  | 0 => []
  | k + 1 => woK ts out k ++ (if k ∈ out then [] else ts[k]?.toList)
theorem wo_one {ts : List (List Int)} {i : Nat} {t : List Int} (hi : ts[i]? = some t) (k : Nat) : ((if i < k then [t] else []) ++ woK ts [i] k).Perm (ts.take k) := by
  induction k with
  | zero => simp [woK]
  | succ k ih =>
    rw [List.take_add_one]
    simp only [woK, List.mem_singleton]
    by_cases e : k = i
    · subst e
      rw [if_neg (by omega), List.nil_append] at ih
      rw [if_pos (by omega), if_pos rfl, List.append_nil, hi]
      exact (List.perm_append_comm (l₁ := [t])).trans (ih.append_right [t])
    · rw [if_neg e, ← List.append_assoc]
      have e2 : (if i < k + 1 then [t] else []) = (if i < k then [t] else []) := by
        by_cases h : i < k
        · rw [if_pos h, if_pos (by omega)]
        · rw [if_neg h, if_neg (by omega)]
      rw [e2]
      exact ih.append_right _
theorem wo_two {ts : List (List Int)} {i j : Nat} {s t : List Int} (hi : ts[i]? = some s) (hj : ts[j]? = some t) (hij : i ≠ j) (k : Nat) : ((if i < k then [s] else []) ++ (if j < k then [t] else []) ++ woK ts [i, j] k).Perm (ts.take k) := by
  induction k with
  | zero => simp [woK]
  | succ k ih =>
    rw [List.take_add_one]
    simp only [woK, List.mem_cons, List.not_mem_nil, or_false]
    by_cases e : k = i
    · subst e
      rw [if_neg (by omega), List.nil_append] at ih
      have e2 : (if j < k + 1 then [t] else []) = (if j < k then [t] else []) := by
        by_cases h : j < k
        · rw [if_pos h, if_pos (by omega)]
        · rw [if_neg h, if_neg (by omega)]
      rw [if_pos (show k < k + 1 by omega), e2, if_pos (show k = k ∨ k = j from .inl rfl), List.append_nil, hi, List.append_assoc]
      exact (List.perm_append_comm (l₁ := [s])).trans (ih.append_right [s])
    · have e3 : (if i < k + 1 then [s] else []) = (if i < k then [s] else []) := by
        by_cases h : i < k
        · rw [if_pos h, if_pos (by omega)]
        · rw [if_neg h, if_neg (by omega)]
      by_cases f : k = j
      · subst f
        rw [if_neg (show ¬ k < k by omega), List.append_nil] at ih
        rw [e3, if_pos (show k < k + 1 by omega), if_pos (show k = i ∨ k = k from .inr rfl), List.append_nil, hj]
        have p1 : ((if i < k then [s] else []) ++ [t] ++ woK ts [i, k] k).Perm ((if i < k then [s] else []) ++ woK ts [i, k] k ++ [t]) := by
          rw [List.append_assoc, List.append_assoc]
          exact List.perm_append_comm.append_left _
        exact p1.trans (ih.append_right [t])
      · have e4 : (if j < k + 1 then [t] else []) = (if j < k then [t] else []) := by
          by_cases h : j < k
          · rw [if_pos h, if_pos (by omega)]
          · rw [if_neg h, if_neg (by omega)]
        rw [e3, e4, if_neg (show ¬ (k = i ∨ k = j) by omega), ← List.append_assoc]
        exact ih.append_right _
theorem wo_one_all {ts : List (List Int)} {i : Nat} {t : List Int} (hi : ts[i]? = some t) : (t :: woK ts [i] ts.length).Perm ts := by
  have h := wo_one hi ts.length
  rw [if_pos (List.getElem?_eq_some_iff.1 hi).1, List.take_length] at h
  exact h
theorem wo_two_all {ts : List (List Int)} {i j : Nat} {s t : List Int} (hi : ts[i]? = some s) (hj : ts[j]? = some t) (hij : i ≠ j) : (s :: t :: woK ts [i, j] ts.length).Perm ts := by
  have h := wo_two hi hj hij ts.length
  rw [if_pos (List.getElem?_eq_some_iff.1 hi).1, if_pos (List.getElem?_eq_some_iff.1 hj).1, List.take_length] at h
  exact h
/-- two tours in the place of which their join stands -/
theorem FQ.join {N : Int} {a b J : List Int} {W : List (List Int)} (h : FQ N (a :: b :: W)) (hJ : tB J = true) (hm : ∀ x, x ∈ J ↔ x ∈ a ∨ x ∈ b) : FQ N (W ++ [J]) := by
  obtain ⟨h1, h2, h3⟩ := h
  rw [List.pairwise_cons, List.pairwise_cons] at h2
  obtain ⟨p1, p2, p3⟩ := h2
  have hab : Apart a b := p1 b (by simp)
  refine FQ.perm (a := J :: W) ⟨fun t ht => ?_, ?_, ?_⟩ (List.perm_append_comm (l₁ := [J]))
  · rcases List.mem_cons.1 ht with rfl | ht
    · refine ⟨hJ, fun x hx => ?_⟩
      rcases (hm x).1 hx with hx | hx
      · exact (h1 a (by simp)).2 x hx
      · exact (h1 b (by simp)).2 x hx
    · exact h1 t (by simp [ht])
  · rw [List.pairwise_cons]
    refine ⟨fun t ht x hx => ?_, p3⟩
    rcases (hm x).1 hx with hx | hx
    · exact p1 t (by simp [ht]) x hx
    · exact p2 t ht x hx
  · rw [← h3]
    have := cnt_two hab hm
    simp only [cnt, List.map_cons, List.sum_cons]
    omega
/-- a tour in the place of which its two parts stand -/
theorem FQ.split {N : Int} {t a b : List Int} {p c : Int} {W : List (List Int)} (h : FQ N (t :: W)) (hs : SpIs t a b p c) : FQ N (W ++ [a, b]) := by
  obtain ⟨h1, h2, h3⟩ := h
  rw [List.pairwise_cons] at h2
  obtain ⟨p1, p2⟩ := h2
  have hab : Apart a b := Apart.symm fun x hx => hs.apart x hx
  refine FQ.perm (a := a :: b :: W) ⟨fun s hs' => ?_, ?_, ?_⟩ (List.perm_append_comm (l₁ := [a, b]))
  · rcases List.mem_cons.1 hs' with rfl | hs'
    · exact ⟨hs.oka, fun x hx => (h1 t (by simp)).2 x ((hs.mem x).2 (.inl hx))⟩
    · rcases List.mem_cons.1 hs' with rfl | hs'
      · exact ⟨hs.okb, fun x hx => (h1 t (by simp)).2 x ((hs.mem x).2 (.inr hx))⟩
      · exact h1 s (by simp [hs'])
  · rw [List.pairwise_cons, List.pairwise_cons]
    refine ⟨fun s hs' x hx => ?_, fun s hs' x hx => p1 s hs' x ((hs.mem x).2 (.inr hx)), p2⟩
    rcases List.mem_cons.1 hs' with rfl | hs'
    · exact hab x hx
    · exact p1 s hs' x ((hs.mem x).2 (.inl hx))
  · rw [← h3]
    have := cnt_two hab hs.mem
    simp only [cnt, List.map_cons, List.sum_cons]
    omega
end Go.Proofs.YtgjngaaibcmgmabGreat
