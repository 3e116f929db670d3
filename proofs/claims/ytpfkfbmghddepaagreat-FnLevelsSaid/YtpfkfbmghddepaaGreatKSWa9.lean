/- The specification's walk where it meets a ring. The specification's TourOf where there is a ring. The specification's ForestAt, where the graph is right. The specification's TreeOf and SizeOf. The specification's WebOk. The specification's WebAdd. -/
import Derived.Test.YtpfkfbmghddepaaGreatKSTourOf
import Derived.Test.YtpfkfbmghddepaaGreatKLk7
import Derived.Test.YtpfkfbmghddepaaGreatKILb9
import Derived.Test.YtpfkfbmghddepaaGreatKIns9
import Derived.Test.YtpfkfbmghddepaaGreatKWb9
import Derived.Test.YtpfkfbmghddepaaGreatKSGo9
import Derived.Test.YtpfkfbmghddepaaGreatKSVerts
namespace Go.Proofs.YtpfkfbmghddepaaGreat
open Go.RowKit

/-- what was seen: each once, vertices; fuel is left; the list is not long -/
structure SkIs (n f m : Nat) (sk : List Int) : Prop where
  nodup : sk.Nodup
  rng : ∀ x ∈ sk, 0 ≤ x ∧ x < (n : Int)
  fuel : n ≤ f + sk.length
  len : m + 1 ≤ 2 * sk.length
theorem SkIs.small {n f m : Nat} {sk : List Int} (h : SkIs n f m sk) (hn : n ≤ 12) : m ≤ 24 := by
  have := nodup_le n sk h.nodup h.rng
  have := h.len
  omega
theorem wk_seen {es : List EdgeV} {n : Nat} (f : Nat) : ∀ (v fr : Int) (seen t sn : List Int), 0 ≤ v → v < (n : Int) → v ∉ seen → seen.Nodup → (∀ x ∈ seen, 0 ≤ x ∧ x < (n : Int)) → wk es n f v fr seen = some (t, sn) → sn.Nodup ∧ (∀ x ∈ sn, 0 ≤ x ∧ x < (n : Int)) ∧ t.length + 2 * seen.length + 1 ≤ 2 * sn.length := by
  induction f with
  | zero => intro v fr seen t sn _ _ _ _ _ h; simp [wk] at h
  | succ f ih =>
    intro v fr seen0 t sn h0 h1 hv hnd hrg h
    rw [wk] at h
    have key : ∀ (rem k : Nat) (out seen : List Int), rem + k = n → (seen.Nodup ∧ (∀ x ∈ seen, 0 ≤ x ∧ x < (n : Int)) ∧ out.length + 2 * seen0.length + 1 ≤ 2 * seen.length) → wkGo (wk es n f) es n v fr rem out seen = some (t, sn) → sn.Nodup ∧ (∀ x ∈ sn, 0 ≤ x ∧ x < (n : Int)) ∧ t.length + 2 * seen0.length + 1 ≤ 2 * sn.length := by
      intro rem
      induction rem with
      | zero =>
        intro k out seen hk hs h
        simp [wkGo] at h
        rw [← h.2, ← h.1]
        exact hs
      | succ rem ihr =>
        intro k out seen hk hs h
        have ek : n - (rem + 1) = k := by omega
        by_cases hc : (k : Int) = fr ∨ mkE v (k : Int) ∉ es
        · rw [wkGo_skip ek hc] at h
          exact ihr (k + 1) out seen (by omega) hs h
        · obtain ⟨hks, p, hp, hgo⟩ := wkGo_go ek (fun e => hc (.inl e)) (Classical.not_not.1 (fun e => hc (.inr e))) h
          obtain ⟨p1, p2, p3⟩ := ih (k : Int) v seen p.1 p.2 (by omega) (by omega) hks hs.1 hs.2.1 hp
          refine ihr (k + 1) _ p.2 (by omega) ⟨p1, p2, ?_⟩ hgo
          have := hs.2.2
          simp
          omega
    refine key n 0 [v] (v :: seen0) (by omega) ⟨List.nodup_cons.2 ⟨hv, hnd⟩, fun x hx => ?_, by simp; omega⟩ h
    rcases List.mem_cons.1 hx with rfl | hx
    · exact ⟨h0, h1⟩
    · exact hrg x hx
theorem SkIs.next {es : List EdgeV} {n f m k : Nat} {v : Int} {sk : List Int} (h : SkIs n f m sk) (hk : (k : Int) ∉ sk) (hkn : k < n) {p : List Int × List Int} (hp : wk es n f (k : Int) v sk = some p) : SkIs n f (m + p.1.length + 1) p.2 := by
  obtain ⟨h1, h2, h3⟩ := wk_seen f (k : Int) v sk p.1 p.2 (by omega) (by omega) hk h.nodup h.rng hp
  have := h.len
  have := h.fuel
  exact ⟨h1, h2, by omega, by omega⟩
set_option maxRecDepth 100000 in
set_option maxHeartbeats 8000000 in
theorem l06Walk_ring (es : List EdgeV) (n ne : Nat) (a : Option Addr) (c gs cs : Nat) (hn : n ≤ 12) (hne : ne ≤ 1000) (f : Nat) : ∀ (v : Nat) (fr : Int) (seen : List Int) (w : World), wk es n f (v : Int) fr seen = none → n ≤ f + seen.length → seen.Nodup → (∀ x ∈ seen, 0 ≤ x ∧ x < (n : Int)) → (v : Int) ∉ seen → v < n → Es w gs a ne es → Arr w gs n seen →
    Calls Tryz.prog 193 #[.int .i64 (n : Int), .slice a ne c, .int .i64 (v : Int), .int .i64 fr, .slice (some ⟨gs, 0, none⟩) n cs] w fun e w' => ∃ a' m c', e = .returned (.tuple #[.slice a' m c', .bool true]) ∧ w.grownBy w' (some gs) := by
  obtain ⟨i0, hi, hz0, hz1, hz2⟩ := info_parts info3i
  induction f with
  | zero =>
    intro v fr seen w _ hf hnd hrg hvs hvn
    have := nodup_le n ((v : Int) :: seen) (List.nodup_cons.2 ⟨hvs, hnd⟩) (fun x hx => by
      rcases List.mem_cons.1 hx with rfl | hx
      · exact ⟨by omega, by omega⟩
      · exact hrg x hx)
    simp at this
    omega
  | succ f ih =>
    intro v fr seen w hwk hf hnd hrg hvs hvn hes harr
    have HI0 : Hid (SkIs n f 1 ((v : Int) :: seen)) := ⟨List.nodup_cons.2 ⟨hvs, hnd⟩, fun x hx => by
      rcases List.mem_cons.1 hx with rfl | hx
      · exact ⟨by omega, by omega⟩
      · exact hrg x hx, by simp; omega, by simp; omega⟩
    clear hnd hrg hvs hf
    have IH := hideIt ih
    clear ih
    rw [wk] at hwk
    have HW := hideIt hwk
    clear hwk
    have HE := hideIt hes
    have hgl := harr.lt
    have b1 : (0 : Int) ≤ (v : Int) := by omega
    have b2 : (v : Int) < (n : Int) := by omega
    have c0 := harr.cell v hvn
    have c1 := harr.frz v
    have H0 : Hid (WSt w gs n (some ⟨w.heap.size, 0, none⟩) 1 1 [(v : Int)] ((v : Int) :: seen) ((w.setCell ⟨gs, v, none⟩ (.bool true)).alloc (.cells #[.int .i64 (v : Int)] 3))) := by
      have hsz : (w.setCell ⟨gs, v, none⟩ (.bool true)).heap.size = w.heap.size := by simp [World.setCell]
      have o1 := World.ownsRow_lit (base := w.heap.size) (e := 3) (size := 1) (w.setCell ⟨gs, v, none⟩ (.bool true)) #[.int .i64 (v : Int)] 1 (by rw [hsz]; exact Nat.le_refl _) (by unfold maxLen; omega) (by simp)
      rw [hsz] at o1
      have hb := (Below.refl _ (w.setCell ⟨gs, v, none⟩ (.bool true))).alloc (Nat.le_refl _) (.cells #[.int .i64 (v : Int)] 3)
      exact ⟨by simpa [ic] using o1, (harr.put v hvn).up hb, grown_trans (grownSet _ gs v _) (grown_of_below hb _)⟩
    clear hes harr
    go_enter Tryz.func193, Tryz.ntmps193
    go_wp2
    go_loopw [12, 13] (fun r i wr => ∃ (k m c1 : Nat) (a1 : Option Addr) (out sk : List Int), k ≤ n ∧ i = .int .i64 (k : Int) ∧ r = .slice a1 m c1 ∧ Hid (wkGo (wk es n f) es n (v : Int) fr (n - k) out sk = none) ∧ Hid (WSt w gs n a1 m c1 out sk wr) ∧ Hid (SkIs n f m sk)) (fun _ i _ => n - (intOf i).toNat)
    case atStart => exact ⟨0, 1, 1, _, [(v : Int)], (v : Int) :: seen, by omega, rfl, rfl, HW, H0, HI0⟩
    case round =>
      obtain ⟨k, m, c2, a1, out, sk, hk, rfl, rfl, HG, HS, HI⟩ := hrel
      clear H0 HW c0 c1 HI0
      have hml := HS.out.len
      have hm24 : m ≤ 24 := HI.out.small hn
      by_cases hlt : k < n
      · have b3 : (0 : Int) ≤ (k : Int) := by omega
        have b4 : (k : Int) < (n : Int) := by omega
        by_cases hvk : (v : Int) < (k : Int)
        · have d1 : decide ((v : Int) < (k : Int)) = true := decide_eq_true hvk
          have HEe : Hid (mkE (v : Int) (k : Int) = ((v : Int), (k : Int))) := by show _ = _; unfold mkE; rw [if_pos hvk]
          have hb1 : Below wr.heap.size wr (wr.alloc (.cells #[.int .i64 (v : Int), .int .i64 (k : Int)] 28)) := (Below.refl _ _).alloc (Nat.le_refl _) _
          have HS1 := hideIt (HS.out.up hb1)
          clear hb1
          obtain ⟨rem, hrem⟩ : ∃ rem, n - k = rem + 1 := ⟨n - k - 1, by omega⟩
          have hrem2 : n - (k + 1) = rem := by omega
          have hrem3 : n - (rem + 1) = k := by omega
          rw [hrem] at HG
          have Hrem := hideIt (And.intro hrem (And.intro hrem2 hrem3))
          clear hrem hrem2 hrem3
          by_cases hkf : (k : Int) = fr
          · have d2 : ((k : Int) == fr) = true := by simpa using hkf
            have HG2 : Hid (wkGo (wk es n f) es n (v : Int) fr (n - (k + 1)) out sk = none) := by show _ = _; rw [Hrem.out.2.1, ← wkGo_skip Hrem.out.2.2 (.inl hkf)]; exact HG.out
            clear HG HS hkf
            go_wp2
            exact ⟨⟨k + 1, m, c2, a1, out, sk, by omega, by go_num, rfl, HG2, HS1, HI⟩, by simp [intOf]; omega⟩
          · have d2 : ((k : Int) == fr) = false := by simpa using hkf
            have HH := hideIt (l05Has_any es ((v : Int), (k : Int)) ne a c (by omega) _ ((HE.out.grown (by omega) HS1.out.grown).mono (by have := HS1.out.grown.size; omega)))
            cases hb : hasB es ((v : Int), (k : Int)) with
            | false =>
              rw [hb] at HH
              have HG2 : Hid (wkGo (wk es n f) es n (v : Int) fr (n - (k + 1)) out sk = none) := by
                show _ = _
                rw [Hrem.out.2.1, ← wkGo_skip Hrem.out.2.2 (.inr (by rw [HEe.out]; exact of_decide_eq_false hb))]
                exact HG.out
              clear HG HS hb
              go_wp2_with (go_at_call 67; refine HH.out.mono ?_; rintro e w3 ⟨rfl, hb3⟩)
              exact ⟨⟨k + 1, m, c2, a1, out, sk, by omega, by go_num, rfl, HG2, hideIt (HS1.out.up hb3), HI⟩, by simp [intOf]; omega⟩
            | true =>
              rw [hb] at HH
              by_cases hks : (k : Int) ∈ sk
              · have HK := hideIt hks
                clear HG hb hks Hrem
                go_wp2_with (go_at_call 67; refine HH.out.mono ?_; rintro e w3 ⟨rfl, hb3⟩; refine Hid.out ?_)
                refine (show ∀ {p : Prop}, p → Hid p from fun h => h) ?_
                have HS3 := hideIt (HS1.out.up hb3)
                have e0 := HS3.out.arr.cell k hlt
                rw [decide_eq_true HK.out] at e0
                clear HS1 HH hb3
                go_wp2
                go_ret2
                exact ⟨a1, m, c2, rfl, HS3.out.grown⟩
              cases hp : wk es n f (k : Int) (v : Int) sk with
              | none =>
                have HP := hideIt hp
                have HK := hideIt hks
                clear HG hb hks Hrem hp
                go_wp2_with (go_at_call 67; refine HH.out.mono ?_; rintro e w3 ⟨rfl, hb3⟩; refine Hid.out ?_)
                refine (show ∀ {p : Prop}, p → Hid p from fun h => h) ?_
                have HS3 := hideIt (HS1.out.up hb3)
                have e0 := HS3.out.arr.cell k hlt
                rw [decide_eq_false HK.out] at e0
                have HR := hideIt (IH.out k (v : Int) sk w3 HP.out HI.out.fuel HI.out.nodup HI.out.rng HK.out hlt (HE.out.grown (by omega) HS3.out.grown) HS3.out.arr)
                clear HS1 HH hb3
                go_wp2_with (go_at_call 193; refine HR.out.mono ?_; rintro e w4 ⟨a4, m4, c4, rfl, hg4⟩)
                go_ret2
                exact ⟨a1, m, c2, rfl, grown_trans HS3.out.grown hg4⟩
              | some p =>
              have hgo : wkGo (wk es n f) es n (v : Int) fr (n - (k + 1)) (out ++ p.1 ++ [(v : Int)]) p.2 = none := by
                have h7 := HG.out
                rw [wkGo, Hrem.out.2.2, if_neg (by rintro (h8 | h8); exact hkf h8; exact h8 (by rw [HEe.out]; exact of_decide_eq_true hb)), if_neg hks, hp] at h7
                rw [Hrem.out.2.1]
                exact h7
              have HI2 := hideIt (HI.out.next hks hlt hp)
              have hln := HI2.out.small hn
              have hp0 := wk_head hp
              have HG2 : Hid (wkGo (wk es n f) es n (v : Int) fr (n - (k + 1)) (out ++ p.1 ++ [(v : Int)]) p.2 = none) := hgo
              have HP := hideIt hp
              have HK := hideIt hks
              clear HG HS hb hp hgo hks Hrem
              go_wp2_with (go_at_call 67; refine HH.out.mono ?_; rintro e w3 ⟨rfl, hb3⟩; refine Hid.out ?_)
              refine (show ∀ {p : Prop}, p → Hid p from fun h => h) ?_
              have HS3 := hideIt (HS1.out.up hb3)
              have e0 := HS3.out.arr.cell k hlt
              rw [decide_eq_false HK.out] at e0
              have HR := hideIt (l06Walk_any es n ne a c gs cs hn hne f k (v : Int) sk w3 p.1 p.2 HP.out (by omega) hlt (HE.out.grown (by omega) HS3.out.grown) HS3.out.arr)
              clear HS1 HH hb3
              go_wp2_with (go_at_call 193; refine HR.out.mono ?_; rintro e w4 ⟨a4, m4, c4, rfl, ho4, hg4, har4⟩; refine Hid.out ?_)
              refine (show ∀ {p : Prop}, p → Hid p from fun h => h) ?_
              have HS4 := hideIt (HS3.out.turned hgl hg4 har4)
              have I4 := Is_of_own ho4
              have hm4 : p.1.length = m4 := I4.1
              obtain ⟨g4, c4', hform, _⟩ := ho4.form (by omega)
              simp at hform
              obtain ⟨rfl, rfl⟩ := hform
              have HN4 := hideIt I4.news
              have HN4l : Hid ((ic p.1).length = m4 * 1) := by show _ = _; rw [ic_len]; omega
              have z4 := HS4.out.grown.size
              clear HS3 HR ho4 hg4 har4 e0 I4
              go_wp2_with (at_builtin; refine wpList_append_own _ rfl _ _ 44 rfl w.heap.size 3 i0 _ 1 8 Tryz.underlying44 hi hz0 hz1 hz2 rfl (by decide) _ _ _ rfl HS4.out.own ⟨g4, 0, none⟩ m4 c4 (ic p.1) rfl HN4l.out HN4.out ic_one (by unfold maxLen; omega) (by omega) z4 ?_)
              intro v5 w5 hown5 hg5 _
              obtain ⟨a5, c5, rfl, S5⟩ := HS4.out.app hgl hown5 hg5
              clear hown5 hg5 HS4 HN4 HN4l
              refine Hid.out ?_
              refine (show ∀ {p : Prop}, p → Hid p from fun h => h) ?_
              have HS5 := hideIt (S5.up ((Below.refl _ w5).alloc (Nat.le_refl _) (.cells #[.int .i64 (v : Int)] 3)))
              have z5 := HS5.out.grown.size
              simp at z5
              clear S5
              go_wp2_with (at_builtin; refine wpList_append_own _ rfl _ _ 44 rfl w.heap.size 3 i0 _ 1 8 Tryz.underlying44 hi hz0 hz1 hz2 rfl (by decide) _ _ _ rfl HS5.out.own ⟨w5.heap.size, 0, none⟩ 1 1 [.int .i64 (v : Int)] rfl rfl (newsI w5 (v : Int)) (by intro u hu; simp at hu; subst hu; rfl) (by unfold maxLen; omega) (by omega) (by simp; omega) ?_)
              intro v6 w6 hown6 hg6 _
              obtain ⟨a6, c6, rfl, S6⟩ := HS5.out.app hgl (xs := [(v : Int)]) hown6 hg6
              have HS6 := hideIt S6
              clear hown6 hg6 HS5 S6
              go_wp2
              exact ⟨⟨k + 1, _, c6, a6, _, p.2, by omega, by go_num, rfl, HG2, HS6, by rw [← hm4]; exact HI2⟩, by simp [intOf]; omega⟩
        · have d1 : decide ((v : Int) < (k : Int)) = false := decide_eq_false hvk
          have HEe : Hid (mkE (v : Int) (k : Int) = ((k : Int), (v : Int))) := by show _ = _; unfold mkE; rw [if_neg hvk]
          have hb1 : Below wr.heap.size wr (wr.alloc (.cells #[.int .i64 (k : Int), .int .i64 (v : Int)] 28)) := (Below.refl _ _).alloc (Nat.le_refl _) _
          have HS1 := hideIt (HS.out.up hb1)
          clear hb1
          obtain ⟨rem, hrem⟩ : ∃ rem, n - k = rem + 1 := ⟨n - k - 1, by omega⟩
          have hrem2 : n - (k + 1) = rem := by omega
          have hrem3 : n - (rem + 1) = k := by omega
          rw [hrem] at HG
          have Hrem := hideIt (And.intro hrem (And.intro hrem2 hrem3))
          clear hrem hrem2 hrem3
          by_cases hkf : (k : Int) = fr
          · have d2 : ((k : Int) == fr) = true := by simpa using hkf
            have HG2 : Hid (wkGo (wk es n f) es n (v : Int) fr (n - (k + 1)) out sk = none) := by show _ = _; rw [Hrem.out.2.1, ← wkGo_skip Hrem.out.2.2 (.inl hkf)]; exact HG.out
            clear HG HS hkf
            go_wp2
            exact ⟨⟨k + 1, m, c2, a1, out, sk, by omega, by go_num, rfl, HG2, HS1, HI⟩, by simp [intOf]; omega⟩
          · have d2 : ((k : Int) == fr) = false := by simpa using hkf
            have HH := hideIt (l05Has_any es ((k : Int), (v : Int)) ne a c (by omega) _ ((HE.out.grown (by omega) HS1.out.grown).mono (by have := HS1.out.grown.size; omega)))
            cases hb : hasB es ((k : Int), (v : Int)) with
            | false =>
              rw [hb] at HH
              have HG2 : Hid (wkGo (wk es n f) es n (v : Int) fr (n - (k + 1)) out sk = none) := by
                show _ = _
                rw [Hrem.out.2.1, ← wkGo_skip Hrem.out.2.2 (.inr (by rw [HEe.out]; exact of_decide_eq_false hb))]
                exact HG.out
              clear HG HS hb
              go_wp2_with (go_at_call 67; refine HH.out.mono ?_; rintro e w3 ⟨rfl, hb3⟩)
              exact ⟨⟨k + 1, m, c2, a1, out, sk, by omega, by go_num, rfl, HG2, hideIt (HS1.out.up hb3), HI⟩, by simp [intOf]; omega⟩
            | true =>
              rw [hb] at HH
              by_cases hks : (k : Int) ∈ sk
              · have HK := hideIt hks
                clear HG hb hks Hrem
                go_wp2_with (go_at_call 67; refine HH.out.mono ?_; rintro e w3 ⟨rfl, hb3⟩; refine Hid.out ?_)
                refine (show ∀ {p : Prop}, p → Hid p from fun h => h) ?_
                have HS3 := hideIt (HS1.out.up hb3)
                have e0 := HS3.out.arr.cell k hlt
                rw [decide_eq_true HK.out] at e0
                clear HS1 HH hb3
                go_wp2
                go_ret2
                exact ⟨a1, m, c2, rfl, HS3.out.grown⟩
              cases hp : wk es n f (k : Int) (v : Int) sk with
              | none =>
                have HP := hideIt hp
                have HK := hideIt hks
                clear HG hb hks Hrem hp
                go_wp2_with (go_at_call 67; refine HH.out.mono ?_; rintro e w3 ⟨rfl, hb3⟩; refine Hid.out ?_)
                refine (show ∀ {p : Prop}, p → Hid p from fun h => h) ?_
                have HS3 := hideIt (HS1.out.up hb3)
                have e0 := HS3.out.arr.cell k hlt
                rw [decide_eq_false HK.out] at e0
                have HR := hideIt (IH.out k (v : Int) sk w3 HP.out HI.out.fuel HI.out.nodup HI.out.rng HK.out hlt (HE.out.grown (by omega) HS3.out.grown) HS3.out.arr)
                clear HS1 HH hb3
                go_wp2_with (go_at_call 193; refine HR.out.mono ?_; rintro e w4 ⟨a4, m4, c4, rfl, hg4⟩)
                go_ret2
                exact ⟨a1, m, c2, rfl, grown_trans HS3.out.grown hg4⟩
              | some p =>
              have hgo : wkGo (wk es n f) es n (v : Int) fr (n - (k + 1)) (out ++ p.1 ++ [(v : Int)]) p.2 = none := by
                have h7 := HG.out
                rw [wkGo, Hrem.out.2.2, if_neg (by rintro (h8 | h8); exact hkf h8; exact h8 (by rw [HEe.out]; exact of_decide_eq_true hb)), if_neg hks, hp] at h7
                rw [Hrem.out.2.1]
                exact h7
              have HI2 := hideIt (HI.out.next hks hlt hp)
              have hln := HI2.out.small hn
              have hp0 := wk_head hp
              have HG2 : Hid (wkGo (wk es n f) es n (v : Int) fr (n - (k + 1)) (out ++ p.1 ++ [(v : Int)]) p.2 = none) := hgo
              have HP := hideIt hp
              have HK := hideIt hks
              clear HG HS hb hp hgo hks Hrem
              go_wp2_with (go_at_call 67; refine HH.out.mono ?_; rintro e w3 ⟨rfl, hb3⟩; refine Hid.out ?_)
              refine (show ∀ {p : Prop}, p → Hid p from fun h => h) ?_
              have HS3 := hideIt (HS1.out.up hb3)
              have e0 := HS3.out.arr.cell k hlt
              rw [decide_eq_false HK.out] at e0
              have HR := hideIt (l06Walk_any es n ne a c gs cs hn hne f k (v : Int) sk w3 p.1 p.2 HP.out (by omega) hlt (HE.out.grown (by omega) HS3.out.grown) HS3.out.arr)
              clear HS1 HH hb3
              go_wp2_with (go_at_call 193; refine HR.out.mono ?_; rintro e w4 ⟨a4, m4, c4, rfl, ho4, hg4, har4⟩; refine Hid.out ?_)
              refine (show ∀ {p : Prop}, p → Hid p from fun h => h) ?_
              have HS4 := hideIt (HS3.out.turned hgl hg4 har4)
              have I4 := Is_of_own ho4
              have hm4 : p.1.length = m4 := I4.1
              obtain ⟨g4, c4', hform, _⟩ := ho4.form (by omega)
              simp at hform
              obtain ⟨rfl, rfl⟩ := hform
              have HN4 := hideIt I4.news
              have HN4l : Hid ((ic p.1).length = m4 * 1) := by show _ = _; rw [ic_len]; omega
              have z4 := HS4.out.grown.size
              clear HS3 HR ho4 hg4 har4 e0 I4
              go_wp2_with (at_builtin; refine wpList_append_own _ rfl _ _ 44 rfl w.heap.size 3 i0 _ 1 8 Tryz.underlying44 hi hz0 hz1 hz2 rfl (by decide) _ _ _ rfl HS4.out.own ⟨g4, 0, none⟩ m4 c4 (ic p.1) rfl HN4l.out HN4.out ic_one (by unfold maxLen; omega) (by omega) z4 ?_)
              intro v5 w5 hown5 hg5 _
              obtain ⟨a5, c5, rfl, S5⟩ := HS4.out.app hgl hown5 hg5
              clear hown5 hg5 HS4 HN4 HN4l
              refine Hid.out ?_
              refine (show ∀ {p : Prop}, p → Hid p from fun h => h) ?_
              have HS5 := hideIt (S5.up ((Below.refl _ w5).alloc (Nat.le_refl _) (.cells #[.int .i64 (v : Int)] 3)))
              have z5 := HS5.out.grown.size
              simp at z5
              clear S5
              go_wp2_with (at_builtin; refine wpList_append_own _ rfl _ _ 44 rfl w.heap.size 3 i0 _ 1 8 Tryz.underlying44 hi hz0 hz1 hz2 rfl (by decide) _ _ _ rfl HS5.out.own ⟨w5.heap.size, 0, none⟩ 1 1 [.int .i64 (v : Int)] rfl rfl (newsI w5 (v : Int)) (by intro u hu; simp at hu; subst hu; rfl) (by unfold maxLen; omega) (by omega) (by simp; omega) ?_)
              intro v6 w6 hown6 hg6 _
              obtain ⟨a6, c6, rfl, S6⟩ := HS5.out.app hgl (xs := [(v : Int)]) hown6 hg6
              have HS6 := hideIt S6
              clear hown6 hg6 HS5 S6
              go_wp2
              exact ⟨⟨k + 1, _, c6, a6, _, p.2, by omega, by go_num, rfl, HG2, HS6, by rw [← hm4]; exact HI2⟩, by simp [intOf]; omega⟩
      · obtain rfl : k = n := by omega
        have := HG.out
        rw [Nat.sub_self, wkGo] at this
        cases this
end Go.Proofs.YtpfkfbmghddepaaGreat
namespace Go.Proofs.YtpfkfbmghddepaaGreat
open Go.RowKit

set_option maxRecDepth 100000 in
set_option maxHeartbeats 4000000 in
theorem sTourOf_ring (es : List EdgeV) (n ne r : Nat) (a : Option Addr) (c : Nat) (hn0 : 1 ≤ n) (hn : n ≤ 12) (hne : ne ≤ 1000) (hr : r < n) (hok : ∀ e ∈ es, eB (n : Int) e = true) (hwk : wk es n n (r : Int) (-1) [] = none) (w : World) (h : Es w w.heap.size a ne es) :
    Calls Tryz.prog 148 #[.int .i64 (n : Int), .slice a ne c, .int .i64 (r : Int)] w fun e w' => ∃ a' c', e = .returned (.tuple #[.slice a' 0 c', .bool false]) ∧ Below w.heap.size w w' := by
  obtain ⟨i0, hi, hz0, hz1, hz2⟩ := info_parts info4b
  have HM : Hid (∀ u : World, (Instr.makeSlice 219 (.int .i64 (n : Int)) (.int .i64 (n : Int))).run Tryz.prog u =
      .ok (.slice (some ⟨u.heap.size, 0, none⟩) n n) (u.alloc (.cells (madeCells #[.bool false] n) 4))) := fun u => by
    have h := run_make (P := Tryz.prog) u 219 4 i0 _ Tryz.underlying219 hi hz0 .i64 .i64 (n : Int) (n : Int) (by omega) (by omega) (by rw [hz2]; omega) (by omega)
    rw [Int.toNat_natCast] at h
    simpa [hz1, Value.cells] using h
  have HE := hideIt h
  have HOk := hideIt hok
  have hlen := h.1
  have HI1 := l01In_any (n : Int) 1 12 w
  rw [decide_eq_true (by omega)] at HI1
  have HI1 := hideIt HI1
  have HI2 := l01In_any (r : Int) 0 ((n : Int) - 1) w
  rw [decide_eq_true (by omega)] at HI2
  have HI2 := hideIt HI2
  have HWk : Hid (∀ u, Below w.heap.size w u → Calls Tryz.prog 193 #[.int .i64 (n : Int), .slice a ne c, .int .i64 (r : Int), .int .i64 (-1), .slice (some ⟨u.heap.size, 0, none⟩) n n] (u.alloc (.cells (madeCells #[.bool false] n) 4)) fun e w' => ∃ a' m c', e = .returned (.tuple #[.slice a' m c', .bool true]) ∧ Below w.heap.size w w') := fun u hu => by
    have hb : Below u.heap.size u (u.alloc (.cells (madeCells #[.bool false] n) 4)) := (Below.refl _ _).alloc (Nat.le_refl _) _
    refine (l06Walk_ring es n ne a c u.heap.size n hn hne n r (-1) [] _ hwk (by simp) (by simp) (by simp) (by simp) hr ((HE.out.up hu).below hb (Nat.le_refl _)) (arr_made u n)).mono ?_
    rintro e w' ⟨a', m, c', he, hg⟩
    exact ⟨a', m, c', he, (hu.trans (hb.mono hu.size)).grown hg (by have := hu.size; simp; omega) (fun j e => by cases e; exact hu.size)⟩
  clear h hok hwk
  go_enter Tryz.func148, Tryz.ntmps148
  go_wp2_with (first | (go_at_call 80; refine HI1.out.mono ?_; clear HI1; rintro e w1 ⟨rfl, hw⟩; have hw' := hw.symm; subst hw'; clear hw) | (go_at_call 80; refine HI2.out.mono ?_; rintro e w1 ⟨rfl, hw⟩; have hw' := hw.symm; subst hw'; clear hw))
  go_loopw [8] (fun i wr => ∃ (k : Nat), k ≤ ne ∧ i = .int .i64 (k : Int) ∧ Good w wr) (fun i _ => ne - (intOf i).toNat)
  case atStart => exact ⟨0, by omega, rfl, Good.refl _⟩
  case round =>
    obtain ⟨k, hk, rfl, hg⟩ := hrel
    by_cases hlt : k < ne
    · rcases HE.out.2 with hz | ⟨b, off, rfl, hbl, hc⟩
      · omega
      · obtain ⟨f, hf⟩ : ∃ f, es[k]? = some f := ⟨es[k]'(by omega), List.getElem?_eq_getElem (by omega)⟩
        have e0 : wr.cell? ⟨b, off + k * 2, none⟩ = some (.int .i64 f.1) := by rw [Below.cell hg hbl]; exact (hc k f hf).1
        have e1 : wr.cell? ⟨b, off + k * 2 + 1, none⟩ = some (.int .i64 f.2) := by rw [Below.cell hg hbl]; exact (hc k f hf).2
        have b1 : (0 : Int) ≤ (k : Int) := by omega
        have b2 : (k : Int) < (ne : Int) := by omega
        have HS := sEdgeOk_any (n : Int) f wr
        rw [HOk.out f (List.mem_of_getElem? hf)] at HS
        have HS := hideIt HS
        clear hc hf
        go_wp2_with (go_at_call 76; refine HS.out.mono ?_; rintro e w1 ⟨rfl, hb1⟩)
        exact ⟨⟨k + 1, by omega, by go_num, hg.up hb1⟩, by simp [intOf]; omega⟩
    · have HW := hideIt (HWk.out wr hg)
      have hmk := HM.out wr
      clear HWk
      go_wp2_with (go_at_call 193; refine HW.out.mono ?_; rintro e w4 ⟨a4, m4, c4, rfl, hb4⟩)
      go_ret2
      exact ⟨_, _, rfl, hb4.alloc hb4.size _⟩
end Go.Proofs.YtpfkfbmghddepaaGreat
namespace Go.Proofs.YtpfkfbmghddepaaGreat
open Go.RowKit

/-- behind the web's box, the answer's and the forest's -/
def wf3 (w : World) (N : Int) (a : Option Addr) (n c : Nat) : World := (wf2 w N a n c).alloc (.cells #[.int .i64 N, .slice none 0 0] 57)
theorem wf3_size (w : World) (N : Int) (a : Option Addr) (n c : Nat) : (wf3 w N a n c).heap.size = w.heap.size + 3 := by simp [wf3, wf2, wW]
theorem wf3_good (w : World) (N : Int) (a : Option Addr) (n c : Nat) : Good w (wf3 w N a n c) := (wf2_good w N a n c).alloc _
/-- what lies below w2: the boxes, the edges -/
structure LowS (w : World) (N : Int) (a : Option Addr) (n c : Nat) (w2 : World) (v : Value) (u : World) : Prop where
  box : Box7 u (w.heap.size + 2) 57 (.int .i64 N) v
  out : Box7 u (w.heap.size + 1) 57 (.int .i64 0) (.slice none 0 0)
  inn : Box7 u w.heap.size 26 (.int .i64 N) (.slice a n c)
  old : Below w.heap.size w u
  es : ∀ k, w.heap.size + 3 ≤ k → k < w2.heap.size → u.heap[k]? = w2.heap[k]?
  size : w2.heap.size ≤ u.heap.size
theorem LowS.start {w : World} {N : Int} {a : Option Addr} {n c : Nat} {w2 : World} (h : Below (w.heap.size + 3) (wf3 w N a n c) w2) : LowS w N a n c w2 (.slice none 0 0) w2 := by
  have b1 : Box7 (wf3 w N a n c) w.heap.size 26 (.int .i64 N) (.slice a n c) := ((Box7.new w _ _ _ _ rfl).alloc _).alloc _
  have b2 : Box7 (wf3 w N a n c) (w.heap.size + 1) 57 (.int .i64 0) (.slice none 0 0) := (Box7.new _ _ _ _ _ (by simp [wW])).alloc _
  have b3 : Box7 (wf3 w N a n c) (w.heap.size + 2) 57 (.int .i64 N) (.slice none 0 0) := Box7.new _ _ _ _ _ (by simp [wf2, wW])
  exact ⟨b3.below h (by omega), b2.below h (by omega), b1.below h (by omega), (wf3_good w N a n c).trans (h.mono (by omega)), fun _ _ _ => rfl, Nat.le_refl _⟩
theorem LowS.up {w : World} {N : Int} {a : Option Addr} {n c : Nat} {w2 : World} {v : Value} {u u' : World} (h : LowS w N a n c w2 v u) (hw2 : w.heap.size + 3 ≤ w2.heap.size) (hb : Below w2.heap.size u u') : LowS w N a n c w2 v u' :=
  ⟨h.box.below hb (by omega), h.out.below hb (by omega), h.inn.below hb (by omega), h.old.trans (hb.mono (by omega)), fun k h1 h2 => by rw [hb.block k h2]; exact h.es k h1 h2, Nat.le_trans h.size hb.size⟩
theorem LowS.set {w : World} {N : Int} {a : Option Addr} {n c : Nat} {w2 : World} {v : Value} {u : World} (h : LowS w N a n c w2 v u) (x : Value) : LowS w N a n c w2 x (u.setCell ⟨w.heap.size + 2, 1, none⟩ x) :=
  ⟨h.box.set1 x, h.out.setOther x (by omega), h.inn.setOther x (by omega), h.old.setCell (p := ⟨w.heap.size + 2, 1, none⟩) (by show _ ≤ w.heap.size + 2; omega) x, fun k h1 h2 => by rw [heap_setCell_other u ⟨w.heap.size + 2, 1, none⟩ k x (by show k ≠ w.heap.size + 2; omega)]; exact h.es k h1 h2, by have := h.size; simpa [World.setCell] using this⟩
/-- the list of edges is still there -/
theorem LowS.edges {w : World} {N : Int} {a : Option Addr} {n c : Nat} {w2 : World} {v : Value} {u : World} (h : LowS w N a n c w2 v u) {g mE cE : Nat} {es : List EdgeV}
    (he : w2.ownsRow (w.heap.size + 3) 28 2 (.slice (some ⟨g, 0, none⟩) mE cE) mE (ecells es)) : Es u u.heap.size (some ⟨g, 0, none⟩) mE es := by
  have h2 : u.ownsRow (w.heap.size + 3) 28 2 (.slice (some ⟨g, 0, none⟩) mE cE) mE (ecells es) := by
    refine ⟨he.1, ?_⟩
    rcases he.2 with ⟨h3, _⟩ | ⟨g2, cap, cur, hv, hg, hcur, hrest⟩
    · simp at h3
    · refine .inr ⟨g2, cap, cur, hv, hg, ?_, hrest⟩
      have hgl := he.lt g2 (by rw [hv]; rfl)
      rw [h.es g2 hgl.1 hgl.2]
      exact hcur
  exact Es_of_own h2
/-- rows of other sorts do not meet -/
theorem own_kind {u : World} {lo e s n lo' e' s' n' : Nat} {v v' : Value} {xs xs' : List Value} (h : u.ownsRow lo e s v n xs) (h' : u.ownsRow lo' e' s' v' n' xs') (hne : e ≠ e') : v.ownBlock = none ∨ v.ownBlock ≠ v'.ownBlock := by
  rcases h.2 with ⟨rfl, _⟩ | ⟨g, cap, cur, rfl, hb, hg, rest⟩
  · exact .inl rfl
  · refine .inr fun e1 => ?_
    rcases h'.2 with ⟨rfl, _⟩ | ⟨g', cap', cur', rfl, hb', hg', rest'⟩
    · simp [Value.ownBlock] at e1
    · simp [Value.ownBlock] at e1
      subst e1
      rw [hg] at hg'
      simp at hg'
      exact hne hg'.2
theorem FB.other {u v : World} {lo : Nat} {a : Option Addr} {n c : Nat} {R : List Rw} (h : FB u lo u.heap.size a n c R) {lo' e' s' n' : Nat} {x' : Value} {xs' : List Value} (hd : u.ownsRow lo' e' s' x' n' xs') (hty : 44 ≠ e') (hap : ∀ r ∈ R, x'.ownBlock ≠ some r.g) (hg : u.grownBy v x'.ownBlock) : FB v lo v.heap.size a n c R := by
  have ho := World.ownsRow.kept h.own hg (own_kind h.own hd hty)
  refine ⟨h.len, ho, fun g hg2 => (ho.lt g hg2).2, Nat.le_refl _, fun r hr => ?_, h.nod⟩
  have h1 := h.ins r hr
  have h2 := h1.1.grown hg (hap r hr)
  exact ⟨h2, h1.2.1, h2.lt⟩
theorem own_grown {u u' : World} {lo : Nat} {o : Obj} {x : Value} {e s n : Nat} {xs : List Value} (h : u.ownsRow lo e s x n xs) (hg : (u.alloc o).grownBy u' x.ownBlock) (hl : lo ≤ u.heap.size) : Below lo u u' :=
  ((Below.refl lo u).alloc hl o).grown hg (by simp; omega) (fun j hj => (h.lt j hj).1)
theorem own_grown' {u u' : World} {lo : Nat} {x : Value} {e s n : Nat} {xs : List Value} (h : u.ownsRow lo e s x n xs) (hg : u.grownBy u' x.ownBlock) (hl : lo ≤ u.heap.size) : Below lo u u' :=
  (Below.refl lo u).grown hg hl (fun j hj => (h.lt j hj).1)
theorem flat_snoc (ts : List (List Int)) (t : List Int) : (ts ++ [t]).flatten = ts.flatten ++ t := by simp
theorem flat_len {ts : List (List Int)} (h : ∀ t ∈ ts, t.length ≤ 23) : ts.flatten.length ≤ 23 * ts.length := by
  induction ts with
  | nil => simp
  | cons t ts ih =>
    have h1 := h t (by simp)
    have h2 := ih fun s hs => h s (by simp [hs])
    simp only [List.flatten_cons, List.length_append, List.length_cons]
    omega
theorem ic_app (a b : List Int) : ic (a ++ b) = ic a ++ ic b := by simp [ic]

set_option maxRecDepth 100000 in
set_option maxHeartbeats 4000000 in
theorem sForestAt_any (nn : Nat) (ls : List Ld) (lv : Int) (n : Nat) (a : Option Addr) (c : Nat) (hn1 : 1 ≤ nn) (hn12 : nn ≤ 12) (hG : gB (nn : Int) (gE ls) = true) (w : World) (h : Ls w w.heap.size a n ls) :
    Calls Tryz.prog 81 #[.agg #[.int .i64 (nn : Int), .slice a n c], .int .i64 lv] w (FAn9 w (nn : Int) (ftK (fE ls lv) nn nn)) := by
  obtain ⟨i0, hi, hz0, hz1, hz2⟩ := info_parts infoIT9
  obtain ⟨j0, hj, hy0, hy1, hy2⟩ := info_parts info3i
  have hlen := h.1
  have h66 : n ≤ 66 := by have := (gB_chk hG).2.2; rw [gE_len] at this; omega
  have HE := hideIt (fE_ends hG lv)
  have HI1 := l01In_any (nn : Int) 1 12
  have HIn : Hid (∀ u, Calls Tryz.prog 80 #[.int .i64 (nn : Int), .int .i64 1, .int .i64 12] u fun e w' => e = .returned (.bool true) ∧ w' = u) := fun u => by
    have := HI1 u
    rw [decide_eq_true (by omega)] at this
    exact this
  have HT := hideIt (l08Tree_any (nn : Int) ls lv n a c (by omega) _ (h.up (wf3_good w (nn : Int) a n c)))
  have HTo : Hid (∀ (g m c' k : Nat) (t sn : List Int) (u : World), k < nn → wk (fE ls lv) nn nn (k : Int) (-1) [] = some (t, sn) → t.length ≤ 23 → Es u u.heap.size (some ⟨g, 0, none⟩) m (fE ls lv) → Calls Tryz.prog 148 #[.int .i64 (nn : Int), .slice (some ⟨g, 0, none⟩) m c', .int .i64 (k : Int)] u fun e w' => ∃ a' m c', e = .returned (.tuple #[.slice a' m c', .bool true]) ∧ w'.ownsRow u.heap.size 3 1 (.slice a' m c') m (ic t) ∧ Below u.heap.size u w') := fun g m c' k t sn u hk hw htl hu =>
    sTourOf_any (fE ls lv) nn m k (some ⟨g, 0, none⟩) c' t sn hn1 hn12 (by have := hu.1; have := fE_len ls lv; omega) hk (fun e he => gB_eB hG (fE_g he)) hw (by omega) u hu
  have HTr : Hid (∀ (g m c' k : Nat) (u : World), k < nn → wk (fE ls lv) nn nn (k : Int) (-1) [] = none → Es u u.heap.size (some ⟨g, 0, none⟩) m (fE ls lv) → Calls Tryz.prog 148 #[.int .i64 (nn : Int), .slice (some ⟨g, 0, none⟩) m c', .int .i64 (k : Int)] u fun e w' => ∃ a' c', e = .returned (.tuple #[.slice a' 0 c', .bool false]) ∧ Below u.heap.size u w') := fun g m c' k u hk hw hu =>
    sTourOf_ring (fE ls lv) nn m k (some ⟨g, 0, none⟩) c' hn1 hn12 (by have := hu.1; have := fE_len ls lv; omega) hk (fun e he => gB_eB hG (fE_g he)) hw u hu
  clear h hG HI1
  go_enter Tryz.func81, Tryz.ntmps81
  go_wp2_with (go_at_call 147; refine HT.out.mono ?_; rintro e w2 ⟨g, mE, cE, rfl, hoE, hb2⟩; refine Hid.out ?_)
  refine (show ∀ {p : Prop}, p → Hid p from fun h => h) ?_
  rw [wf3_size] at hoE hb2
  have z2 := hb2.size
  rw [wf3_size] at z2
  have hL0 := LowS.start hb2
  have HOE := hideIt hoE
  have k0 := hL0.inn.cell0
  have HL0 := hideIt (hL0.up z2 ((Below.refl _ _).alloc (Nat.le_refl _) (.cells #[] 3)))
  have HD0 : Hid ((w2.alloc (.cells #[] 3)).ownsRow w2.heap.size 3 1 (.slice (some ⟨w2.heap.size, 0, none⟩) 0 0) 0 (ic [])) := by
    show World.ownsRow _ _ _ _ _ _ _
    have h0 := World.ownsRow_lit (base := w2.heap.size) (e := 3) (size := 1) w2 #[] 0 (Nat.le_refl _) (by unfold maxLen; omega) (by simp)
    simpa [ic] using h0
  have HF0 : Hid (FB (w2.alloc (.cells #[] 3)) w2.heap.size (w2.alloc (.cells #[] 3)).heap.size none 0 0 []) := FB.nil _ _
  clear HT hoE hb2 hL0
  go_wp2_with (go_at_call 80; refine (HIn.out _).mono ?_; rintro e w1 ⟨rfl, hw⟩; have hw' := hw.symm; subst hw'; clear hw)
  go_loopw [8, 9] (fun d i wr => ∃ (k m c' md cd : Nat) (a' ad : Option Addr) (R : List Rw), k ≤ nn ∧ m ≤ k ∧ md ≤ 23 * k ∧ i = .int .i64 (k : Int) ∧ d = .slice ad md cd ∧ Hid (ftK (fE ls lv) nn k = some (rts R)) ∧ LowS w (nn : Int) a n c w2 (.slice a' m c') wr ∧ FB wr w2.heap.size wr.heap.size a' m c' R ∧ wr.ownsRow w2.heap.size 3 1 (.slice ad md cd) md (ic (rts R).flatten) ∧ Hid (∀ x ∈ R, (Value.slice ad md cd).ownBlock ≠ some x.g)) (fun _ i _ => nn - (intOf i).toNat)
  case atStart => exact ⟨0, 0, 0, 0, 0, none, _, [], by omega, by omega, by omega, rfl, rfl, rfl, HL0.out, HF0.out, HD0.out, fun x hx => by simp at hx⟩
  case round =>
    obtain ⟨k, m, c', md, cd, a', ad, R, hk, hm, hmd, rfl, rfl, HK, hL, hfb, hd, HAp⟩ := hrel
    clear HL0 HD0 HF0 k0
    have k0 := hL.inn.cell0
    have hz := hL.size
    by_cases hlt : k < nn
    · have HIn2 := hideIt (l05In_any (rts R).flatten (k : Int) md ad cd (by omega) wr (Is_of_own hd))
      by_cases hin : (k : Int) ∈ (rts R).flatten
      · rw [decide_eq_true hin] at HIn2
        have HK2 := hideIt (ftK_there HK.out hin)
        have HL := hideIt hL
        have HFB := hideIt hfb
        have HD := hideIt hd
        clear hin hL hfb hd HK
        go_wp2_with (go_at_call 93; refine HIn2.out.mono ?_; rintro e w1 ⟨rfl, hw⟩; have hw' := hw.symm; subst hw'; clear hw)
        exact ⟨⟨k + 1, m, c', md, cd, a', ad, R, by omega, by omega, by omega, by go_num, rfl, HK2, HL.out, HFB.out, HD.out, HAp⟩, by simp [intOf]; omega⟩
      · rw [decide_eq_false hin] at HIn2
        cases hw : wk (fE ls lv) nn nn (k : Int) (-1) [] with
        | none =>
          have HN := hideIt (ftK_none (ftK_ring HK.out hin hw) nn (by omega))
          have HT2 := hideIt (HTr.out g mE cE k wr hlt hw (hL.edges HOE.out))
          have HL := hideIt hL
          clear hin hw hL hfb hd HK
          go_wp2_with (first | (go_at_call 93; refine HIn2.out.mono ?_; rintro e w1 ⟨rfl, hw⟩; have hw' := hw.symm; subst hw'; clear hw) | (go_at_call 148; refine HT2.out.mono ?_; rintro e w4 ⟨a4, c4, rfl, hb4⟩; refine Hid.out ?_))
          refine (show ∀ {p : Prop}, p → Hid p from fun h => h) ?_
          have hL4 := HL.out.up z2 (hb4.mono hz)
          have r0 := hL4.out.cell0
          have r1 := hL4.out.cell1
          have q0 := hL4.out.frozen 0
          have q1 := hL4.out.frozen 1
          have HOl := hideIt hL4.old
          clear HT2 hb4 hL4
          go_wp2
          rw [HN.out]
          refine bodyPost_ret (v := .tuple #[.agg #[.int .i64 0, .slice none 0 0], .bool false]) (by simp [results, Tryz.results81, go_sem, r0, r1]) rfl ⟨none, 0, 0, [], rfl, FB.nil _ _, rfl, ?_⟩
          exact (HOl.out.setCell (p := ⟨w.heap.size + 1, 0, none⟩) (by show _ ≤ w.heap.size + 1; omega) _).setCell (p := ⟨w.heap.size + 1, 1, none⟩) (by show _ ≤ w.heap.size + 1; omega) _
        | some p =>
          obtain ⟨t, sn⟩ := p
          have htl := tB_len (wk_tree HE.out hn12 (by omega) (by omega) hw).1
          have HK2 : Hid (∀ r : Rw, r.t = t → ftK (fE ls lv) nn (k + 1) = some (rts (R ++ [r]))) := fun r hr => by rw [ftK_new HK.out hin hw, rts_snoc, hr]
          have HT2 := hideIt (HTo.out g mE cE k t sn wr hlt hw (by omega) (hL.edges HOE.out))
          have HL := hideIt hL
          have HFB := hideIt hfb
          have HD := hideIt hd
          clear hin hw hL hfb hd HK
          go_wp2_with (first | (go_at_call 93; refine HIn2.out.mono ?_; rintro e w1 ⟨rfl, hw⟩; have hw' := hw.symm; subst hw'; clear hw) | (go_at_call 148; refine HT2.out.mono ?_; rintro e w4 ⟨a4, m4, c4, rfl, ho4, hb4⟩; refine Hid.out ?_))
          refine (show ∀ {p : Prop}, p → Hid p from fun h => h) ?_
          have hm4 : t.length = m4 := by have := ho4.1; rw [ic_len] at this; omega
          subst hm4
          obtain ⟨g4, c4', hform, _⟩ := ho4.form (by omega)
          simp at hform
          obtain ⟨rfl, rfl⟩ := hform
          have hgl := (ho4.lt g4 rfl).1
          have HRw := hideIt (RwB.of_own ho4)
          have HL4 := hideIt (HL.out.up z2 (hb4.mono hz))
          have HFB4 := hideIt (HFB.out.keep hb4)
          have HD4 := hideIt (own_up HD.out hb4)
          have HFr : Hid (∀ x ∈ R, x.g ≠ g4) := fun x hx e => by have := (HFB.out.ins x hx).2.2; omega
          have HDg : Hid ((Value.slice ad md cd).ownBlock ≠ some g4) := fun e => by have := (HD.out.lt g4 e).2; omega
          have z4 := HL4.out.size
          have e0 := HL4.out.box.cell1
          have e1 := HL4.out.box.frozen 1
          clear HT2 ho4 hb4 HL HFB HD k0 HIn2
          go_wp2_with (at_builtin; refine wpList_append_own _ rfl _ _ 55 rfl w2.heap.size 44 i0 _ 1 24 Tryz.underlying55 hi hz0 hz1 hz2 rfl (by decide) _ _ _ rfl (HFB4.out.own.alloc _) ⟨w4.heap.size, 0, none⟩ 1 1 [.slice (some ⟨g4, 0, none⟩) t.length c4] rfl rfl (newsV9 w4 _) (by intro y hy; simp at hy; subst hy; rfl) (by unfold maxLen; omega) (by omega) (by simp; omega) ?_)
          intro v5 w5 hown5 hg5 _
          obtain ⟨a5, c5, rfl, F5⟩ := HFB4.out.app (r := ⟨g4, c4, t⟩) HRw.out (by show w2.heap.size ≤ g4; omega) HFr.out hown5 hg5
          have hbl5 := own_grown HFB4.out.own hg5 z4
          have HL5 := hideIt (HL4.out.up z2 hbl5)
          have hd5 := World.ownsRow.kept (HD4.out.alloc (.cells #[.slice (some ⟨g4, 0, none⟩) t.length c4] 44)) hg5 (by
            rcases own_kind HD4.out HFB4.out.own (by decide) with h1 | h1
            · exact .inl h1
            · exact .inr h1)
          have HD5 := hideIt hd5
          have HF5 := hideIt F5
          have x0 := HL5.out.box.cell1
          have x1 := HL5.out.box.frozen 1
          clear hown5 hg5 F5 HFB4 HL4 HD4 hbl5 hd5 e0 e1
          have HL6 := hideIt (HL5.out.set (.slice a5 (m + 1) c5))
          have HF6 := hideIt ((HF5.out.setLow (x := w.heap.size + 2) (by omega) 1 (.slice a5 (m + 1) c5)).hi (hi' := (w5.setCell ⟨w.heap.size + 2, 1, none⟩ (.slice a5 (m + 1) c5)).heap.size) (by simp [World.setCell]) (Nat.le_refl _))
          have HD6 := hideIt (own_setLow HD5.out (w.heap.size + 2) 1 (.slice a5 (m + 1) c5) (by omega))
          refine Hid.out ?_
          refine (show ∀ {p : Prop}, p → Hid p from fun h => h) ?_
          have hIs : Is (w5.setCell ⟨w.heap.size + 2, 1, none⟩ (.slice a5 (m + 1) c5)) (w5.setCell ⟨w.heap.size + 2, 1, none⟩ (.slice a5 (m + 1) c5)).heap.size (some ⟨g4, 0, none⟩) t.length t := (HF6.out.ins ⟨g4, c4, t⟩ (by simp)).1.is
          have HN6 := hideIt hIs.news
          have HN6l : Hid ((ic t).length = t.length * 1) := by show _ = _; rw [ic_len]; omega
          have z6 := HL6.out.size
          have hmdl : md ≤ 300 := by omega
          clear hIs HL5 HF5 HD5
          go_wp2_with (at_builtin; refine wpList_append_lies _ rfl _ _ 44 rfl w2.heap.size 3 j0 _ 1 8 Tryz.underlying44 hj hy0 hy1 hy2 rfl (by decide) _ _ _ rfl HD6.out ⟨g4, 0, none⟩ t.length c4 (ic t) rfl HN6l.out HN6.out ic_one (by omega) (by unfold maxLen; omega) (by omega) z6 _ rfl ?_)
          intro g7 c7 w7 hown7 hg7 hnew7 _
          have HB7 := own_grown' HD6.out hg7 z6
          have HL7 := hideIt (HL6.out.up z2 HB7)
          have HF7 := hideIt (HF6.out.other HD6.out (by decide) (fun r hr => by
            rcases List.mem_append.1 hr with h1 | h1
            · exact HAp.out r h1
            · simp at h1; subst h1; exact HDg.out) hg7)
          have HD7 : Hid (w7.ownsRow w2.heap.size 3 1 (.slice (some ⟨g7, 0, none⟩) (md + t.length) c7) (md + t.length) (ic (rts (R ++ [⟨g4, c4, t⟩])).flatten)) := by
            show World.ownsRow _ _ _ _ _ _ _
            rw [rts_snoc, flat_snoc, ic_app]
            exact hown7
          have HAp7 : Hid (∀ x ∈ R ++ [⟨g4, c4, t⟩], (Value.slice (some ⟨g7, 0, none⟩) (md + t.length) c7).ownBlock ≠ some x.g) := fun x hx e => by
            have e2 : g7 = x.g := by simpa [Value.ownBlock] using e
            have hx6 := (HF6.out.ins x hx).2.2
            rcases hnew7 with h1 | h1
            · rcases List.mem_append.1 hx with h2 | h2
              · exact HAp.out x h2 (by rw [h1, e2])
              · simp at h2
                subst h2
                exact HDg.out (by rw [h1, e2])
            · have h3 : (w5.setCell ⟨w.heap.size + 2, 1, none⟩ (.slice a5 (m + 1) c5)).heap.size = w5.heap.size := by simp [World.setCell]
              rw [h3] at hx6
              have h4 : g7 = w5.heap.size := by rw [h1]
              omega
          clear hown7 hg7 hnew7 HB7 HL6 HF6 HD6 HN6 HN6l x0 x1
          go_wp2
          exact ⟨⟨k + 1, m + 1, c5, md + t.length, c7, a5, some ⟨g7, 0, none⟩, R ++ [⟨g4, c4, t⟩], by omega, by omega, by omega, by go_num, rfl, HK2.out _ rfl, HL7.out, HF7.out, HD7.out, HAp7⟩, by simp [intOf]; omega⟩
    · obtain rfl : k = nn := by omega
      have r0 := hL.out.cell0
      have r1 := hL.out.cell1
      have q0 := hL.out.frozen 0
      have q1 := hL.out.frozen 1
      have e0 := hL.box.cell0
      have e1 := hL.box.cell1
      have HFB := hideIt hfb
      have HOl := hideIt hL.old
      clear hfb hd hL
      go_wp2
      rw [HK.out]
      refine bodyPost_ret (v := .tuple #[.agg #[.int .i64 (k : Int), .slice a' m c'], .bool true]) (by simp [results, Tryz.results81, go_sem, r0, r1]) rfl ⟨a', m, c', R, rfl, ?_, rfl, ?_⟩
      · exact ((HFB.out.setLow (x := w.heap.size + 1) (by omega) 0 (.int .i64 (k : Int))).setLow (x := w.heap.size + 1) (by omega) 1 (.slice a' m c')).lo (by omega) |>.hi (by simp [World.setCell]) (Nat.le_refl _)
      · exact (HOl.out.setCell (p := ⟨w.heap.size + 1, 0, none⟩) (by show _ ≤ w.heap.size + 1; omega) _).setCell (p := ⟨w.heap.size + 1, 1, none⟩) (by show _ ≤ w.heap.size + 1; omega) _
end Go.Proofs.YtpfkfbmghddepaaGreat
namespace Go.Proofs.YtpfkfbmghddepaaGreat
open Go.RowKit

theorem sForestOk_yes {N : Int} {ts : List (List Int)} (hP : FP N ts) {n : Nat} {a : Option Addr} (c : Nat) (hn : n + lnS ts ≤ 1048576) {w : World} (h : Ts w w.heap.size a n ts) :
    Calls Tryz.prog 33 #[.agg #[.int .i64 N, .slice a n c]] w fun e w' => e = .returned (.bool true) ∧ Good w w' :=
  (sForestOk_any N ts n a c hn w h).mono fun e u ⟨b, he, hb, hbl⟩ => ⟨by rw [he, hb.2 hP], hbl⟩
theorem sForestOk_no {N : Int} {ts : List (List Int)} (hP : ¬ FP N ts) {n : Nat} {a : Option Addr} (c : Nat) (hn : n + lnS ts ≤ 1048576) {w : World} (h : Ts w w.heap.size a n ts) :
    Calls Tryz.prog 33 #[.agg #[.int .i64 N, .slice a n c]] w fun e w' => e = .returned (.bool false) ∧ Good w w' :=
  (sForestOk_any N ts n a c hn w h).mono fun e u ⟨b, he, hb, hbl⟩ => ⟨by
      have : b = false := by
        cases b with
        | false => rfl
        | true => exact absurd (hb.1 rfl) hP
      rw [he, this], hbl⟩

set_option maxHeartbeats 1000000 in
theorem sTreeOf_any (N : Int) (ts : List (List Int)) (v : Int) (n : Nat) (a : Option Addr) (c : Nat) (hn : n + lnS ts ≤ 1048576) (w : World) (h : Ts w w.heap.size a n ts) :
    Calls Tryz.prog 83 #[.agg #[.int .i64 N, .slice a n c], .int .i64 v] w fun e w' => e = .returned (.int .i64 (treeO N ts v)) ∧ Below w.heap.size w w' := by
  have b0 : Good w (w.alloc (.cells #[.int .i64 N, .slice a n c] 57)) := (Good.refl w).alloc _
  have HB0 := hideIt b0
  have HC0 : Hid (∀ u, Good (w.alloc (.cells #[.int .i64 N, .slice a n c] 57)) u → u.cell? ⟨w.heap.size, 1, none⟩ = some (.slice a n c)) := fun u hu => by rw [hu.cell (by simp)]; simp
  by_cases hP : FP N ts
  · have HF2 := hideIt (sForestOk_yes hP c hn (h.up b0))
    have HA := hideIt (h.up b0)
    have HV := hideIt (treeO_yes hP v)
    have hlen := h.1
    clear h b0 hP
    go_enter Tryz.func83, Tryz.ntmps83
    go_wp2_with (go_at_call 33; refine HF2.out.mono ?_; rintro e w1 ⟨rfl, hg1⟩; refine Hid.out ?_)
    refine (show ∀ {p : Prop}, p → Hid p from fun h => h) ?_
    have HG1 := hideIt hg1
    clear HF2 hg1
    go_wp2
    go_loopw [5] (fun i wr => ∃ k : Nat, k ≤ n ∧ i = .int .i64 (k : Int) ∧ Hid (∀ j, j < k → trP ts v j = false) ∧ wr = w1) (fun i _ => n - (intOf i).toNat)
    case atStart => exact ⟨0, by omega, rfl, fun j hj => by omega, rfl⟩
    case round =>
      obtain ⟨k, hk, rfl, HK, hw⟩ := hrel
      have hw' := hw.symm
      subst hw'
      clear hw
      have k1 := HC0.out _ HG1.out
      by_cases hlt : k < n
      · rcases (HA.out.up HG1.out).2 with hz | ⟨bb, off, rfl, hbl, hc⟩
        · omega
        · obtain ⟨t, ht⟩ : ∃ t, ts[k]? = some t := ⟨ts[k]'(by omega), List.getElem?_eq_getElem (by omega)⟩
          obtain ⟨x, cx, e0, iI, _⟩ := hc k t ht
          have b1 : (0 : Int) ≤ (k : Int) := by omega
          have b2 : (k : Int) < (n : Int) := by omega
          have HC := hideIt (l05In_any t v t.length x cx (by have := lnS_mem (List.mem_of_getElem? ht); omega) w1 iI)
          rw [← trP_at (v := v) ht] at HC
          cases hp : trP ts v k with
          | true =>
            rw [hp] at HC
            have HV2 : Hid (trI ts v = (k : Int)) := firstN_yes (by omega) hp HK.out
            clear hc ht iI hp HK
            go_wp2_with (go_at_call 93; refine HC.out.mono ?_; rintro e w2 ⟨rfl, hw⟩; have hw' := hw.symm; subst hw'; clear hw)
            go_ret
            exact ⟨by rw [HV.out, HV2.out]; rfl, HB0.out.up HG1.out⟩
          | false =>
            rw [hp] at HC
            have HK2 : Hid (∀ j, j < k + 1 → trP ts v j = false) := fun j hj => by
              by_cases h7 : j = k
              · rw [h7]; exact hp
              · exact HK.out j (by omega)
            clear hc ht iI hp HK
            go_wp2_with (go_at_call 93; refine HC.out.mono ?_; rintro e w2 ⟨rfl, hw⟩; have hw' := hw.symm; subst hw'; clear hw)
            exact ⟨⟨k + 1, by omega, by go_num, HK2, by first | trivial | rfl⟩, by simp [intOf]; omega⟩
      · obtain rfl : k = n := by omega
        have HV2 : Hid (trI ts v = -1) := firstN_no (fun j hj => HK.out j (by omega))
        clear HK
        go_wp2
        go_ret
        exact ⟨by rw [HV.out, HV2.out]; rfl, HB0.out.up HG1.out⟩
  · have HF2 := hideIt (sForestOk_no hP c hn (h.up b0))
    have HV := hideIt (treeO_no hP v)
    clear h b0 hP
    go_enter Tryz.func83, Tryz.ntmps83
    go_wp2_with (go_at_call 33; refine HF2.out.mono ?_; rintro e w1 ⟨rfl, hg1⟩)
    go_ret
    exact ⟨by rw [HV.out]; rfl, HB0.out.up hg1⟩

end Go.Proofs.YtpfkfbmghddepaaGreat
namespace Go.Proofs.YtpfkfbmghddepaaGreat
open Go.RowKit

theorem lnS_small {ts : List (List Int)} (h : ∀ t ∈ ts, t.length ≤ 23) : lnS ts ≤ 23 * ts.length := by
  induction ts with
  | nil => simp [lnS]
  | cons t ts ih =>
    have h1 := h t (by simp)
    have h2 := ih fun s hs => h s (by simp [hs])
    simp only [lnS, List.map_cons, List.sum_cons, List.length_cons] at h2 ⊢
    omega
set_option maxRecDepth 100000 in
set_option maxHeartbeats 8000000 in
theorem sWebOk_any (N : Int) (ls : List Ld) (n : Nat) (a : Option Addr) (c : Nat) (hn : n ≤ 1048576) (w : World) (h : Ls w w.heap.size a n ls) :
    Calls Tryz.prog 20 #[.agg #[.int .i64 N, .slice a n c]] w fun e w' => e = .returned (.bool (wB N ls)) ∧ Below w.heap.size w w' := by
  have hlen := h.1
  have hfa : Good w (wW w N a n c) := wW_good w N a n c
  have HR := hideIt h
  have HGo := hideIt (sGraphOf_any N ls n a c hn _ (h.up hfa))
  have HGk : Hid (∀ (a' : Option Addr) (c' : Nat) (u : World), u.ownsRow (wW w N a n c).heap.size 28 2 (.slice a' n c') n (ecells (gE ls)) → Calls Tryz.prog 71 #[.agg #[.int .i64 N, .slice a' n c']] u fun e w' => e = .returned (.bool (gB N (gE ls))) ∧ Below u.heap.size u w') := fun a' c' u hu => sGraphOk_any N (gE ls) n a' c' hn u (Es_of_own hu)
  have HC : Hid (∀ u, Good (wW w N a n c) u → u.cell? ⟨w.heap.size, 0, none⟩ = some (.int .i64 N) ∧ u.cell? ⟨w.heap.size, 1, none⟩ = some (.slice a n c)) := fun u hu => by
    unfold Good at hu
    rw [wW_size] at hu
    exact wW_cells hu
  have HIn := hideIt l01In_any
  clear h
  cases hG : gB N (gE ls) with
  | false =>
    rw [hG] at HGk
    have HN := hideIt (wB_no (N := N) (ls := ls) fun hw => by have := hw.1; rw [hG] at this; cases this)
    clear hG
    go_enter Tryz.func20, Tryz.ntmps20
    go_wp2_with (first | (go_at_call 27; refine HGo.out.mono ?_; rintro e w1 ⟨ag, cg, rfl, ho1, hb1⟩; have HG2 := HGk.out ag cg w1 ho1; clear ho1) | (go_at_call 71; refine HG2.mono ?_; rintro e w2 ⟨rfl, hb2⟩))
    go_ret
    exact ⟨by rw [HN.out]; rfl, (hfa.up hb1).up hb2⟩
  | true =>
    rw [hG] at HGk
    obtain ⟨nn, rfl, hn1, hn12⟩ := gB_n hG
    have h66 : n ≤ 66 := by have := (gB_chk hG).2.2; rw [gE_len] at this; omega
    go_enter Tryz.func20, Tryz.ntmps20
    go_wp2_with (first | (go_at_call 27; refine HGo.out.mono ?_; rintro e w1 ⟨ag, cg, rfl, ho1, hb1⟩; have HG2 := HGk.out ag cg w1 ho1; clear ho1) | (go_at_call 71; refine HG2.mono ?_; rintro e w2 ⟨rfl, hb2⟩; refine Hid.out ?_))
    refine (show ∀ {p : Prop}, p → Hid p from fun h => h) ?_
    have G2 : Good (wW w (nn : Int) a n c) w2 := (show Good (wW w (nn : Int) a n c) w1 from hb1).up hb2
    have HG0 := hideIt hG
    clear HGo HGk HG2 hb1 hb2 hG
    go_wp2
    go_loopw [3] (fun i wr => ∃ k : Nat, k ≤ n ∧ i = .int .i64 (k : Int) ∧ Hid (∀ j x, j < k → ls[j]? = some x → 0 ≤ x.l ∧ x.l ≤ 4) ∧ Good (wW w (nn : Int) a n c) wr) (fun i _ => n - (intOf i).toNat)
    case atStart => exact ⟨0, by omega, rfl, fun j x hj => by omega, G2⟩
    case round =>
      obtain ⟨k, hk, rfl, HK, hg⟩ := hrel
      clear G2
      obtain ⟨cw0, cw1⟩ := HC.out wr hg
      by_cases hlt : k < n
      · obtain ⟨b, off, x, rfl, hbl, hxk, hat⟩ := ((HR.out.up (wW_good w _ a n c)).up hg).at hlt
        have e2 := hat.cl
        have b1 : (0 : Int) ≤ (k : Int) := by omega
        have b2 : (k : Int) < (n : Int) := by omega
        have HX := hideIt hxk
        have HGs := hideIt hg
        clear hxk hat hg
        by_cases hlv : 0 ≤ x.l ∧ x.l ≤ 4
        · have HI2 := HIn.out x.l 0 4 wr
          rw [decide_eq_true hlv] at HI2
          have HI2 := hideIt HI2
          have HK2 : Hid (∀ j x, j < k + 1 → ls[j]? = some x → 0 ≤ x.l ∧ x.l ≤ 4) := fun j y hj hy => by
            by_cases e : j = k
            · subst e
              rw [HX.out] at hy
              obtain rfl := Option.some.inj hy
              exact hlv
            · exact HK.out j y (by omega) hy
          clear HK hlv
          go_wp2_with (go_at_call 80; refine HI2.out.mono ?_; rintro e w1 ⟨rfl, hw⟩; have hw' := hw.symm; subst hw'; clear hw)
          exact ⟨⟨k + 1, by omega, by go_num, HK2, HGs.out⟩, by simp [intOf]; omega⟩
        · have HI2 := HIn.out x.l 0 4 wr
          rw [decide_eq_false hlv] at HI2
          have HI2 := hideIt HI2
          have HN := hideIt (wB_no (N := (nn : Int)) (ls := ls) fun hw => hlv (hw.2.1 x (List.mem_of_getElem? HX.out)))
          clear HK hlv
          go_wp2_with (go_at_call 80; refine HI2.out.mono ?_; rintro e w1 ⟨rfl, hw⟩; have hw' := hw.symm; subst hw'; clear hw)
          go_ret
          exact ⟨by rw [HN.out]; rfl, hfa.up HGs.out⟩
      · obtain rfl : k = n := by omega
        have HLv : Hid (∀ x ∈ ls, 0 ≤ x.l ∧ x.l ≤ 4) := fun x hx => by
          obtain ⟨j, hj⟩ := List.mem_iff_getElem?.1 hx
          exact HK.out j x (by have := (List.getElem?_eq_some_iff.1 hj).1; omega) hj
        have HLs : Hid (∀ u, Good (wW w (nn : Int) a k c) u → Ls u u.heap.size a k ls) := fun u hu => (HR.out.up (wW_good w _ a k c)).up hu
        have HFa : Hid (∀ (i : Nat) (u : World), Good (wW w (nn : Int) a k c) u → Calls Tryz.prog 81 #[.agg #[.int .i64 (nn : Int), .slice a k c], .int .i64 (i : Int)] u (FAt9 u (nn : Int) (ftK (fE ls (i : Int)) nn nn))) := fun i u hu => (sForestAt_any nn ls (i : Int) k a c hn1 hn12 HG0.out u (HLs.out u hu)).mono fun _ _ h => h.weak
        have HGs := hideIt hg
        clear HK hg
        go_wp2
        go_loopw [4, 5] (fun mo i wr => ∃ q ms : Nat, q ≤ 5 ∧ ms ≤ 12 ∧ i = .int .i64 (q : Int) ∧ mo = .int .i64 (ms : Int) ∧ Hid (ms = nn / 2 ^ q) ∧ Hid (∀ j, j < q → LvOk nn ls j) ∧ Good (wW w (nn : Int) a k c) wr) (fun _ i _ => 5 - (intOf i).toNat)
        case atStart => exact ⟨0, nn, by omega, by omega, rfl, rfl, by show _ = _; simp, fun j hj => by omega, HGs.out⟩
        case round =>
          obtain ⟨q, ms, hq, hms, rfl, rfl, HMs, HQ, hg⟩ := hrel
          clear HGs cw0 cw1
          obtain ⟨cw0, cw1⟩ := HC.out wr hg
          have HGs := hideIt hg
          by_cases hq5 : q < 5
          · have d0 : decide ((q : Int) ≤ 4) = true := decide_eq_true (by omega)
            have HCf := HFa.out q wr hg
            cases hts : ftK (fE ls (q : Int)) nn nn with
            | none =>
              rw [hts] at HCf
              have HCf := hideIt HCf
              have HN := hideIt (wB_no (N := (nn : Int)) (ls := ls) fun hw => by
                obtain ⟨ts, h1, _⟩ := hw.2.2 q hq5
                rw [Int.toNat_natCast, hts] at h1
                cases h1)
              clear HQ hts hg
              go_wp2_with (go_at_call 81; refine HCf.out.mono ?_; rintro e w3 ⟨a3, m3, c3, rfl, hT3, hb3⟩)
              go_ret
              exact ⟨by rw [HN.out]; rfl, hfa.up ((HGs.out.up hb3).alloc _)⟩
            | some ts =>
              rw [hts] at HCf
              have HCf := hideIt HCf
              have hall := ft_all (fE_ends HG0.out (q : Int)) hn1 hn12 hts
              have HAll := hideIt hall
              have HTS := hideIt hts
              have HTB : Hid (∀ t ∈ ts, tB t = true) := fun t ht => (HAll.out.fp.q.1 t ht).1
              have hl12 : ts.length ≤ 12 := hall.fp.2.2.1
              clear hts hall hg
              go_wp2_with (go_at_call 81; refine HCf.out.mono ?_; rintro e W1 ⟨a1, m1, c1, rfl, hT1, hb3⟩; refine Hid.out ?_)
              refine (show ∀ {p : Prop}, p → Hid p from fun h => h) ?_
              simp only [Option.getD_some] at hT1
              have G1 : Good (wW w (nn : Int) a k c) W1 := HGs.out.up hb3
              obtain ⟨W, hW⟩ : ∃ W, W = W1.alloc (.cells #[.int .i64 (nn : Int), .slice a1 m1 c1] 57) := ⟨_, rfl⟩
              have hbW : Below W1.heap.size W1 W := by rw [hW]; exact (Below.refl _ _).alloc (Nat.le_refl _) _
              have hzW : W.heap.size = W1.heap.size + 1 := by rw [hW]; simp
              have hm1 : m1 ≤ 12 := by have := hT1.1; omega
              have HCW : Hid (∀ u, Good W u → ((u.cell? ⟨W1.heap.size, 0, none⟩ = some (.int .i64 (nn : Int)) ∧ u.cell? ⟨W1.heap.size, 1, none⟩ = some (.slice a1 m1 c1)) ∧ (u.cell? ⟨w.heap.size, 0, none⟩ = some (.int .i64 (nn : Int)) ∧ u.cell? ⟨w.heap.size, 1, none⟩ = some (.slice a k c))) ∧ Good (wW w (nn : Int) a k c) u) := fun u hu => by
                have hu1 : Below W1.heap.size W1 u := hbW.trans (Below.mono hu (by omega))
                have hgu := G1.up hu1
                refine ⟨⟨⟨?_, ?_⟩, HC.out u hgu⟩, hgu⟩
                · rw [hu.cell (by omega), hW]; simp
                · rw [hu.cell (by omega), hW]; simp
              have HTs := hideIt (hT1.up hbW)
              have hln : m1 + lnS ts ≤ 1048576 := by have := lnS_small (ts := ts) (fun t ht => (tB_len (HTB.out t ht)).2); omega
              clear HCf hT1 hb3 hbW G1 cw0 cw1
              go_wp2
              rw [← hW]
              go_loopw [8] (fun i wr => ∃ j : Nat, j ≤ m1 ∧ i = .int .i64 (j : Int) ∧ Hid (∀ y t, y < j → ts[y]? = some t → 1 < (vsL t).length → (vsL t).length ≤ ms) ∧ Good W wr) (fun i _ => m1 - (intOf i).toNat)
              case atStart => exact ⟨0, by omega, rfl, fun y t hy => by omega, Good.refl _⟩
              case round =>
                obtain ⟨j, hj, rfl, HJ, hg⟩ := hrel
                obtain ⟨⟨⟨cf0, cf1⟩, cw0, cw1⟩, hgw⟩ := HCW.out wr hg
                have HG := hideIt hg
                by_cases hjm : j < m1
                · rcases (HTs.out.up hg).2 with hz | ⟨b, off, rfl, hbl, hc⟩
                  · omega
                  · obtain ⟨t, ht⟩ : ∃ t, ts[j]? = some t := ⟨ts[j]'(by have := HTs.out.1; omega), List.getElem?_eq_getElem (by have := HTs.out.1; omega)⟩
                    obtain ⟨x, cx, e0, iI, _⟩ := hc j t ht
                    have hl23 := tB_len (HTB.out t (List.mem_of_getElem? ht))
                    have b1 : (0 : Int) ≤ (j : Int) := by omega
                    have b2 : (j : Int) < (m1 : Int) := by omega
                    have HTk := hideIt ht
                    obtain ⟨V, hV⟩ : ∃ V, (vsL t).length = V := ⟨_, rfl⟩
                    have hV12 := vsL_len t
                    rw [hV] at hV12
                    have HV : Hid (Calls Tryz.prog 82 #[.slice x t.length cx] wr fun e v => ∃ a3 c3, e = .returned (.slice a3 V c3) ∧ Good wr v) := (sVertsOf_any t t.length x cx (by omega) wr iI).mono fun e v ⟨a3, m3, c3, he, ho, hb⟩ => by
                      have hm : V = m3 := by have := ho.1; rw [ic_len] at this; omega
                      subst hm
                      exact ⟨a3, c3, he, hb⟩
                    have HVV := hideIt hV
                    have HJ2 : Hid ((1 < V → V ≤ ms) → ∀ y t, y < j + 1 → ts[y]? = some t → 1 < (vsL t).length → (vsL t).length ≤ ms) := fun hv y s hy hs h2 => by
                      by_cases e : y = j
                      · subst e
                        rw [HTk.out] at hs
                        obtain rfl := Option.some.inj hs
                        rw [HVV.out] at h2 ⊢
                        exact hv h2
                      · exact HJ.out y s (by omega) hs h2
                    clear hc ht iI hV HJ hg
                    by_cases h1 : 1 < V
                    · have d1 : decide ((1 : Int) < (V : Int)) = true := decide_eq_true (by omega)
                      by_cases hle : V ≤ ms
                      · have d2 : decide ((ms : Int) < (V : Int)) = false := decide_eq_false (by omega)
                        have HJ3 := hideIt (HJ2.out fun _ => hle)
                        clear HJ2
                        go_wp2_with (go_at_call 82; refine HV.out.mono ?_; rintro e w3 ⟨a3, c3, rfl, g3⟩)
                        exact ⟨⟨j + 1, by omega, by go_num, HJ3, HG.out.up g3⟩, by simp [intOf]; omega⟩
                      · have d2 : decide ((ms : Int) < (V : Int)) = true := decide_eq_true (by omega)
                        have HN := hideIt (wB_no (N := (nn : Int)) (ls := ls) fun hw => by
                          have h7 := hw.2.2 q hq5
                          rw [Int.toNat_natCast, LvOk_iff HTS.out] at h7
                          have := h7.1 t (List.mem_of_getElem? HTk.out) (by rw [HVV.out]; exact h1)
                          rw [HVV.out, ← HMs.out] at this
                          exact hle this)
                        clear HJ2
                        go_wp2_with (go_at_call 82; refine HV.out.mono ?_; rintro e w3 ⟨a3, c3, rfl, g3⟩)
                        go_ret
                        exact ⟨by rw [HN.out]; rfl, hfa.up (HCW.out _ (HG.out.up g3)).2⟩
                    · have d1 : decide ((1 : Int) < (V : Int)) = false := decide_eq_false (by omega)
                      have HJ3 := hideIt (HJ2.out fun h => absurd h h1)
                      clear HJ2
                      go_wp2_with (go_at_call 82; refine HV.out.mono ?_; rintro e w3 ⟨a3, c3, rfl, g3⟩)
                      exact ⟨⟨j + 1, by omega, by go_num, HJ3, HG.out.up g3⟩, by simp [intOf]; omega⟩
                · obtain rfl : j = m1 := by omega
                  have HA : Hid (∀ t ∈ ts, 1 < (vsL t).length → (vsL t).length ≤ nn / 2 ^ q) := fun t ht h2 => by
                    obtain ⟨y, hy⟩ := List.mem_iff_getElem?.1 ht
                    rw [← HMs.out]
                    exact HJ.out y t (by have := (List.getElem?_eq_some_iff.1 hy).1; have := HTs.out.1; omega) hy h2
                  have HTr : Hid (∀ (v : Int) (u : World), Good W u → Calls Tryz.prog 83 #[.agg #[.int .i64 (nn : Int), .slice a1 j c1], .int .i64 v] u fun e w' => e = .returned (.int .i64 (trI ts v)) ∧ Good W w') := fun v u hu => by
                    have := sTreeOf_any (nn : Int) ts v j a1 c1 hln u (HTs.out.up hu)
                    rw [treeO_yes HAll.out.fp] at this
                    exact this.mono fun e u' ⟨h1, h2⟩ => ⟨h1, hu.up h2⟩
                  clear HJ hg
                  go_wp2
                  go_loopw [10] (fun i wr => ∃ p : Nat, p ≤ k ∧ i = .int .i64 (p : Int) ∧ Hid (∀ y x, y < p → ls[y]? = some x → x.t = false → x.l = (q : Int) → trI ts x.a = trI ts x.b) ∧ Good W wr) (fun i _ => k - (intOf i).toNat)
                  case atStart => exact ⟨0, by omega, rfl, fun y x hy => by omega, HG.out⟩
                  case round =>
                    obtain ⟨p, hp, rfl, HP, hg⟩ := hrel
                    clear HG cf0 cf1 cw0 cw1 hgw
                    obtain ⟨⟨⟨cf0, cf1⟩, cw0, cw1⟩, hgw⟩ := HCW.out wr hg
                    have HG := hideIt hg
                    by_cases hpk : p < k
                    · obtain ⟨b, off, x, rfl, hbl, hxk, hat⟩ := (HLs.out wr hgw).at hpk
                      have e0 := hat.ca
                      have e1 := hat.cb
                      have e2 := hat.cl
                      have e3 := hat.ct
                      have b1 : (0 : Int) ≤ (p : Int) := by omega
                      have b2 : (p : Int) < (k : Int) := by omega
                      have HX := hideIt hxk
                      have HP2 : Hid ((x.t = false → x.l = (q : Int) → trI ts x.a = trI ts x.b) → ∀ y x, y < p + 1 → ls[y]? = some x → x.t = false → x.l = (q : Int) → trI ts x.a = trI ts x.b) := fun hv y z hy hz => by
                        by_cases e : y = p
                        · subst e
                          rw [HX.out] at hz
                          obtain rfl := Option.some.inj hz
                          exact hv
                        · exact HP.out y z (by omega) hz
                      have HGa := hideIt (hg.alloc (.cells #[.int .i64 x.a, .int .i64 x.b, .int .i64 x.l, .bool x.t] 52))
                      have hzw : W1.heap.size < wr.heap.size := by have := hg.size; omega
                      have HS : Hid (∀ u, Good (wr.alloc (.cells #[.int .i64 x.a, .int .i64 x.b, .int .i64 x.l, .bool x.t] 52)) u → ((u.cell? ⟨W1.heap.size, 0, none⟩ = some (.int .i64 (nn : Int)) ∧ u.cell? ⟨W1.heap.size, 1, none⟩ = some (.slice a1 j c1)) ∧ (u.cell? ⟨wr.heap.size, 0, none⟩ = some (.int .i64 x.a) ∧ u.cell? ⟨wr.heap.size, 1, none⟩ = some (.int .i64 x.b))) ∧ u.cell? ⟨wr.heap.size, 2, none⟩ = some (.int .i64 x.l) ∧ u.cell? ⟨wr.heap.size, 3, none⟩ = some (.bool x.t)) := fun u hu => by
                        refine ⟨⟨(HCW.out u (HGa.out.up hu)).1.1, ?_, ?_⟩, ?_, ?_⟩
                        all_goals rw [hu.cell (by simp)]; simp
                      have g0 : Good (wr.alloc (.cells #[.int .i64 x.a, .int .i64 x.b, .int .i64 x.l, .bool x.t] 52)) (wr.alloc (.cells #[.int .i64 x.a, .int .i64 x.b, .int .i64 x.l, .bool x.t] 52)).drew := (Good.refl _).drew
                      clear hxk hat hg HP
                      cases ht : x.t with
                      | true =>
                        rw [ht] at e3 HGa HS g0
                        have HP3 := hideIt (HP2.out fun h => by rw [ht] at h; cases h)
                        have hS0 := HS.out _ g0
                        clear HP2 ht
                        go_wp2
                        go_quiet (fail)
                        go_wp2
                        exact ⟨⟨p + 1, by omega, by go_num, HP3, below_drewN HGa.out _⟩, by simp [intOf]; omega⟩
                      | false =>
                        rw [ht] at e3 HGa HS g0
                        have hS0 := HS.out _ g0
                        by_cases hlq : x.l = (q : Int)
                        · have d2 : (x.l == (q : Int)) = true := by simpa using hlq
                          have HTa : Hid (∀ u, Good (wr.alloc (.cells #[.int .i64 x.a, .int .i64 x.b, .int .i64 x.l, .bool false] 52)) u → Calls Tryz.prog 83 #[.agg #[.int .i64 (nn : Int), .slice a1 j c1], .int .i64 x.a] u fun e w' => e = .returned (.int .i64 (trI ts x.a)) ∧ Good (wr.alloc (.cells #[.int .i64 x.a, .int .i64 x.b, .int .i64 x.l, .bool false] 52)) w') := fun u hu => by
                            have := sTreeOf_any (nn : Int) ts x.a j a1 c1 hln u (HTs.out.up (HGa.out.up hu))
                            rw [treeO_yes HAll.out.fp] at this
                            exact this.mono fun e u' ⟨h1, h2⟩ => ⟨h1, hu.up h2⟩
                          have HTb : Hid (∀ u, Good (wr.alloc (.cells #[.int .i64 x.a, .int .i64 x.b, .int .i64 x.l, .bool false] 52)) u → Calls Tryz.prog 83 #[.agg #[.int .i64 (nn : Int), .slice a1 j c1], .int .i64 x.b] u fun e w' => e = .returned (.int .i64 (trI ts x.b)) ∧ Good (wr.alloc (.cells #[.int .i64 x.a, .int .i64 x.b, .int .i64 x.l, .bool false] 52)) w') := fun u hu => by
                            have := sTreeOf_any (nn : Int) ts x.b j a1 c1 hln u (HTs.out.up (HGa.out.up hu))
                            rw [treeO_yes HAll.out.fp] at this
                            exact this.mono fun e u' ⟨h1, h2⟩ => ⟨h1, hu.up h2⟩
                          obtain ⟨ta, hta⟩ : ∃ ta, trI ts x.a = ta := ⟨_, rfl⟩
                          obtain ⟨tb, htb⟩ : ∃ tb, trI ts x.b = tb := ⟨_, rfl⟩
                          rw [hta] at HTa
                          rw [htb] at HTb
                          by_cases hab : ta = tb
                          · have d3 : (ta != tb) = false := by simpa using hab
                            have HP3 := hideIt (HP2.out fun _ _ => by rw [hta, htb]; exact hab)
                            clear HP2 ht hlq hab hta htb HTr
                            go_wp2
                            go_region_held3 (fun u => ((u.cell? ⟨W1.heap.size, 0, none⟩ = some (.int .i64 (nn : Int)) ∧ u.cell? ⟨W1.heap.size, 1, none⟩ = some (.slice a1 j c1)) ∧ (u.cell? ⟨wr.heap.size, 0, none⟩ = some (.int .i64 x.a) ∧ u.cell? ⟨wr.heap.size, 1, none⟩ = some (.int .i64 x.b))) ∧ u.cell? ⟨wr.heap.size, 2, none⟩ = some (.int .i64 x.l) ∧ u.cell? ⟨wr.heap.size, 3, none⟩ = some (.bool false))
                              (first | exact HS.out _ g5 | exact HS.out _ g4 | exact hS0)
                              (first | (go_at_call 83; refine (HTa.out _ g0).mono ?_; clear HTa; rintro e w4 ⟨rfl, g4⟩) | (go_at_call 83; refine (HTb.out _ g4).mono ?_; rintro e w5 ⟨rfl, g5⟩))
                            go_wp2
                            exact ⟨⟨p + 1, by omega, by go_num, HP3, HGa.out.up g5⟩, by simp [intOf]; omega⟩
                          · have d3 : (ta != tb) = true := by simpa using hab
                            have HN := hideIt (wB_no (N := (nn : Int)) (ls := ls) fun hw => by
                              have h7 := hw.2.2 q hq5
                              rw [Int.toNat_natCast, LvOk_iff HTS.out] at h7
                              have := h7.2 x (List.mem_of_getElem? HX.out) ht hlq
                              rw [hta, htb] at this
                              exact hab this)
                            clear HP2 ht hlq hab hta htb HTr
                            go_wp2
                            go_region_held3 (fun u => ((u.cell? ⟨W1.heap.size, 0, none⟩ = some (.int .i64 (nn : Int)) ∧ u.cell? ⟨W1.heap.size, 1, none⟩ = some (.slice a1 j c1)) ∧ (u.cell? ⟨wr.heap.size, 0, none⟩ = some (.int .i64 x.a) ∧ u.cell? ⟨wr.heap.size, 1, none⟩ = some (.int .i64 x.b))) ∧ u.cell? ⟨wr.heap.size, 2, none⟩ = some (.int .i64 x.l) ∧ u.cell? ⟨wr.heap.size, 3, none⟩ = some (.bool false))
                              (first | exact HS.out _ g5 | exact HS.out _ g4 | exact hS0)
                              (first | (go_at_call 83; refine (HTa.out _ g0).mono ?_; clear HTa; rintro e w4 ⟨rfl, g4⟩) | (go_at_call 83; refine (HTb.out _ g4).mono ?_; rintro e w5 ⟨rfl, g5⟩))
                            go_wp2
                            go_ret
                            exact ⟨by rw [HN.out]; rfl, hfa.up (HCW.out _ (HGa.out.up g5)).2⟩
                        · have d2 : (x.l == (q : Int)) = false := by simpa using hlq
                          have HP3 := hideIt (HP2.out fun _ h => absurd h hlq)
                          clear HP2 ht hlq HTr
                          go_wp2
                          go_quiet (fail)
                          go_wp2
                          exact ⟨⟨p + 1, by omega, by go_num, HP3, below_drewN HGa.out _⟩, by simp [intOf]; omega⟩
                    · obtain rfl : p = k := by omega
                      have HQ2 : Hid (∀ y, y < q + 1 → LvOk nn ls y) := fun y hy => by
                        by_cases e : y = q
                        · subst e
                          exact (LvOk_iff HTS.out).2 ⟨HA.out, fun x hx h1 h2 => by
                            obtain ⟨z, hz⟩ := List.mem_iff_getElem?.1 hx
                            exact HP.out z x (by have := (List.getElem?_eq_some_iff.1 hz).1; omega) hz h1 h2⟩
                        · exact HQ.out y (by omega)
                      have HMs2 : Hid (ms / 2 = nn / 2 ^ (q + 1)) := by show _ = _; rw [HMs.out, Nat.div_div_eq_div_mul, Nat.pow_succ]
                      clear HP hg
                      go_wp2
                      exact ⟨⟨q + 1, ms / 2, by omega, by omega, by go_num, by first | rfl | (congr 1; omega) | go_num, HMs2, HQ2, hgw⟩, by simp [intOf]; omega⟩
          · have d0 : decide ((q : Int) ≤ 4) = false := decide_eq_false (by omega)
            have HY := hideIt (wB_yes (N := (nn : Int)) (ls := ls) ⟨HG0.out, HLv.out, fun i hi => by rw [Int.toNat_natCast]; exact HQ.out i (by omega)⟩)
            clear HQ
            go_wp2
            go_ret
            exact ⟨by rw [HY.out]; rfl, hfa.up hg⟩
end Go.Proofs.YtpfkfbmghddepaaGreat
namespace Go.Proofs.YtpfkfbmghddepaaGreat
open Go.RowKit

set_option maxRecDepth 100000 in
set_option maxHeartbeats 8000000 in
theorem sWebAdd_any (N : Int) (ls : List Ld) (f : EdgeV) (n : Nat) (a : Option Addr) (c : Nat) (hn : n ≤ 1048576) (w : World) (h : Ls w w.heap.size a n ls) :
    Calls Tryz.prog 104 #[.agg #[.int .i64 N, .slice a n c], .agg #[.int .i64 f.1, .int .i64 f.2]] w fun e w' => WAns w N (waO N ls f) e w' := by
  have hA : Hid (∀ u, In3w w N a n c f u → Ls u u.heap.size a n ls) := fun u hu => h.up hu.below
  have HGr : Hid (∀ u, In3w w N a n c f u → Calls Tryz.prog 27 #[.agg #[.int .i64 N, .slice a n c]] u fun e v => ∃ ag cg, e = .returned (.agg #[.int .i64 N, .slice ag n cg]) ∧ Hid (Es v v.heap.size ag n (gE ls)) ∧ In3w w N a n c f v ∧ Below u.heap.size u v) := fun u hu =>
    (sGraphOf_any N ls n a c hn u (hA.out u hu)).mono fun _ _ ⟨ag, cg, he, ho, hb⟩ => ⟨ag, cg, he, Es_of_own ho, hu.up hb, hb⟩
  have HAd : Hid (∀ ag cg u, In3w w N a n c f u → Hid (Es u u.heap.size ag n (gE ls)) → Calls Tryz.prog 18 #[.agg #[.int .i64 N, .slice ag n cg], .agg #[.int .i64 f.1, .int .i64 f.2]] u fun e v => ∃ a1 m1 c1, e = .returned (.tuple #[.agg #[.int .i64 (if (addE N (gE ls) f).isSome then N else 0), .slice a1 m1 c1], .bool (addE N (gE ls) f).isSome]) ∧ Hid (v.ownsRow u.heap.size 28 2 (.slice a1 m1 c1) m1 (ecells ((addE N (gE ls) f).getD []))) ∧ In3w w N a n c f v ∧ Below u.heap.size u v) := fun ag cg u hu he =>
    (sAddEdge_any N (gE ls) f n ag cg hn u he.out).mono fun _ _ ⟨a1, m1, c1, h1, h2, h3⟩ => ⟨a1, m1, c1, h1, h2, hu.up h3, h3⟩
  have S1 := In3w.start w N a n c f
  have HK : Hid (∀ u, In3w w N a n c f u → ((u.cell? ⟨w.heap.size, 0, none⟩ = some (.int .i64 N) ∧ u.cell? ⟨w.heap.size, 1, none⟩ = some (.slice a n c)) ∧ (u.cell? ⟨w.heap.size + 1, 0, none⟩ = some (.int .i64 f.1) ∧ u.cell? ⟨w.heap.size + 1, 1, none⟩ = some (.int .i64 f.2))) ∧ In3w w N a n c f u) := fun u hu => ⟨hu.cells, hu⟩
  obtain ⟨O, hO⟩ : ∃ O, addE N (gE ls) f = O := ⟨_, rfl⟩
  rw [hO] at HAd
  have HO := hideIt hO
  have Hls := hideIt h
  clear h hO
  generalize hfl : O.isSome = fl at *
  generalize hM : (if fl = true then N else 0) = M at *
  generalize hgs : O.getD [] = gs at *
  go_enter Tryz.func104, Tryz.ntmps104
  go_upto_region 1 with fail
  obtain ⟨W, hW⟩ : ∃ W, W = w3w w N a n c f := ⟨_, rfl⟩
  have hW' : (((w.alloc (.cells #[.int .i64 N, .slice a n c] 26)).alloc (.cells #[.int .i64 f.1, .int .i64 f.2] 28)).alloc (.cells #[.int .i64 0, .slice none 0 0] 26)) = W := hW.symm
  rw [hW']
  rw [← hW] at S1
  clear hW hW'
  have zW := S1.size
  go_cut [6, 7] (fun p ok wx => ∃ b a1 m1 c1, p = .pointer (some ⟨b, 0, none⟩) ∧ ok = .bool fl ∧ In3w w N a n c f wx ∧ Hid (EB wx (w.heap.size + 3) b M a1 m1 c1 gs))
  case first =>
    have hS1 := HK.out _ S1.drew
    clear hA Hls HO
    go_region_held3 (fun u => ((u.cell? ⟨w.heap.size, 0, none⟩ = some (.int .i64 N) ∧ u.cell? ⟨w.heap.size, 1, none⟩ = some (.slice a n c)) ∧ (u.cell? ⟨w.heap.size + 1, 0, none⟩ = some (.int .i64 f.1) ∧ u.cell? ⟨w.heap.size + 1, 1, none⟩ = some (.int .i64 f.2))) ∧ In3w w N a n c f u)
      (first | assumption | exact HK.out _ (InW.alloc (And.right (by assumption)) _) | exact HK.out _ (InW.set (InW.set (And.right (by assumption)) _ _ _ (by omega)) _ _ _ (by omega)))
      (first
        | (go_at_call 27; refine (HGr.out _ (And.right (by assumption))).mono ?_; rintro e w3 ⟨ag, cg, rfl, ho3, hg3, hb3⟩; have hS3 := HK.out _ hg3; have z3 := hg3.size; (first | have bx := Box7.up (Box7.new W.drew 33 (.int .i64 0) (.slice none 0 0) W.heap.size rfl) hb3 | skip))
        | (go_at_call 18; refine (HAd.out _ _ _ (And.right (by assumption)) (by first | exact ho3 | exact hideIt (Es.up (Hid.out ho3) ((Below.refl _ _).alloc (Nat.le_refl _) _)))).mono ?_; rintro e w4 ⟨a1, m1, c1, rfl, ho4, hg4, hb4⟩; have hS4 := HK.out _ hg4; have z4 := hg4.size; (first | have bx := Box7.up bx hb4 | have bx := Box7.up (Box7.new w3 33 (.int .i64 0) (.slice none 0 0) w3.heap.size rfl) hb4 | skip); (try (have bc0 := bx.cell0; have bc1 := bx.cell1; have bz0 := bx.frozen 0; have bz1 := bx.frozen 1))))
    all_goals
      go_wp2_with fail
      go_meet
      first
        | exact ⟨_, a1, m1, c1, rfl, rfl, InW.set (InW.set hg4 _ _ _ (by omega)) _ _ _ (by omega), EB.stored bx (by omega) ho4.out⟩
        | exact ⟨_, a1, m1, c1, rfl, rfl, InW.alloc hg4 _, EB.laid (by omega) ho4.out⟩
  case rest =>
    obtain ⟨b, a1, m1, c1, rfl, rfl, S2, hE2⟩ := hcut
    obtain ⟨⟨⟨k0, k1⟩, k2, k3⟩, _⟩ := HK.out _ S2
    have s2 := S2.size
    by_cases hW : WOk N ls
    · obtain ⟨nn, rfl, hn1, hn12⟩ := gB_n hW.1
      obtain ⟨ts, hts, hall⟩ := hW.trees 0 (by omega)
      have hts : ftK (fE ls 0) nn nn = some ts := hts
      have HG0 := sWebOk_any (nn : Int) ls n a c hn _ (hA.out _ S2)
      rw [wB_yes hW] at HG0
      have HG := hideIt HG0
      clear HG0
      by_cases hy : eB (nn : Int) f = true ∧ hasB (gE ls) f = false
      · have hO2 : O = some (putE (gE ls) f) := by rw [← HO.out]; exact addE_yes hW hy.1 hy.2
        subst hO2
        simp only [Option.isSome_some] at hfl
        subst hfl
        have HFo : Hid (∀ u, In3w w (nn : Int) a n c f u → Calls Tryz.prog 81 #[.agg #[.int .i64 (nn : Int), .slice a n c], .int .i64 0] u fun e v => ∃ a' m c', e = .returned (.tuple #[.agg #[.int .i64 (nn : Int), .slice a' m c'], .bool true]) ∧ Ts v v.heap.size a' m ts ∧ Below u.heap.size u v) := fun u hu => by
          have := sForestAt_any nn ls 0 n a c hn1 hn12 hW.1 u (hA.out u hu)
          rw [hts] at this
          exact this.mono fun _ _ h => h.weak
        have HW := hideIt (waO_yes hW hy.1 hy.2)
        have hlen : ls.length = n := Hls.out.1
        have HR : Hid (∀ (v : Int) (a' : Option Addr) (m c' : Nat) (u : World), Ts u u.heap.size a' m ts → Calls Tryz.prog 83 #[.agg #[.int .i64 (nn : Int), .slice a' m c'], .int .i64 v] u fun e w' => e = .returned (.int .i64 (trI ts v)) ∧ Below u.heap.size u w') := fun v a' m c' u hu => by
          have := sTreeOf_any (nn : Int) ts v m a' c' (by have := hu.1; have := ft_lnS hall; omega) u hu
          rw [treeO_yes hall.fp] at this
          exact this
        have hcm : cmL (nn : Int) ls f = ⟨f.1, f.2, 0, trI ts f.1 != trI ts f.2⟩ := by
          unfold cmL
          rw [gndT_is hts]
          by_cases e : trI ts f.1 = trI ts f.2 <;> simp [e]
        rw [hcm] at HW
        obtain ⟨Tf, hTf⟩ : ∃ Tf, trI ts = Tf := ⟨_, rfl⟩
        rw [hTf] at HW HR
        clear hcm hy hall hts hTf HGr HAd HO hW
        have HPu := hideIt (fun u (hu : In3w w (nn : Int) a n c f u) tb => l08Put_any ls ⟨f.1, f.2, 0, tb⟩ n a c hn u (hA.out u hu))
        go_wp2_with (go_at_call 20; refine HG.out.mono ?_; rintro e w3 ⟨rfl, hb3⟩; refine Hid.out ?_)
        refine (show ∀ {p : Prop}, p → Hid p from fun h => h) ?_
        have S3 := S2.up hb3
        obtain ⟨⟨⟨x0, x1⟩, x2, x3⟩, _⟩ := HK.out _ S3
        have HF3 := hideIt (HFo.out _ S3)
        clear k0 k1 k2 k3 hb3 HG HFo hE2
        go_wp2_with (go_at_call 81; refine HF3.out.mono ?_; rintro e w4 ⟨a3, m3, c3, rfl, hT4, hb4⟩; refine Hid.out ?_)
        refine (show ∀ {p : Prop}, p → Hid p from fun h => h) ?_
        obtain ⟨w5, hw5⟩ : ∃ w5, w5 = w4.alloc (.cells #[.int .i64 (nn : Int), .slice a3 m3 c3] 57) := ⟨_, rfl⟩
        have hba : Below w4.heap.size w4 w5 := by rw [hw5]; exact (Below.refl _ _).alloc (Nat.le_refl _) _
        have S5 := (S3.up hb4).up hba
        have HT5 := hideIt (hT4.up hba)
        have bx5 : Box7 w5 w4.heap.size 57 (.int .i64 (nn : Int)) (.slice a3 m3 c3) := by rw [hw5]; exact Box7.new w4 _ _ _ _ rfl
        have HC5 : Hid (∀ u, Good w5 u → ((u.cell? ⟨w4.heap.size, 0, none⟩ = some (.int .i64 (nn : Int)) ∧ u.cell? ⟨w4.heap.size, 1, none⟩ = some (.slice a3 m3 c3)) ∧ (u.cell? ⟨w.heap.size + 1, 0, none⟩ = some (.int .i64 f.1) ∧ u.cell? ⟨w.heap.size + 1, 1, none⟩ = some (.int .i64 f.2))) ∧ Good w5 u) := fun u hu => ⟨⟨⟨(bx5.up hu).cell0, (bx5.up hu).cell1⟩, (S5.up hu).cells.2⟩, hu⟩
        have HP5 : Hid (∀ v u, Good w5 u → Calls Tryz.prog 83 #[.agg #[.int .i64 (nn : Int), .slice a3 m3 c3], .int .i64 v] u fun e v' => e = .returned (.int .i64 (Tf v)) ∧ Good w5 v' ∧ Below u.heap.size u v') := fun v u hu => (HR.out v a3 m3 c3 u (HT5.out.up hu)).mono fun _ _ ⟨he, hb⟩ => ⟨he, hu.up hb, hb⟩
        have s5 := S5.size
        clear x0 x1 x2 x3 HF3 hb4 HR HT5 bx5 hT4 S3 hba
        go_upto_region 5 with fail
        rw [← hw5]
        clear hw5
        go_cut [10] (fun p wx => ∃ b3, p = .pointer (some ⟨b3, 0, none⟩) ∧ w.heap.size + 3 ≤ b3 ∧ In3w w (nn : Int) a n c f wx ∧ Hid (Box4 wx b3 ⟨f.1, f.2, 0, Tf f.1 != Tf f.2⟩))
        case first =>
          have hS5 := HC5.out _ (Good.refl w5).drew
          clear hA Hls HW HPu
          go_region_held3 (fun u => ((u.cell? ⟨w4.heap.size, 0, none⟩ = some (.int .i64 (nn : Int)) ∧ u.cell? ⟨w4.heap.size, 1, none⟩ = some (.slice a3 m3 c3)) ∧ (u.cell? ⟨w.heap.size + 1, 0, none⟩ = some (.int .i64 f.1) ∧ u.cell? ⟨w.heap.size + 1, 1, none⟩ = some (.int .i64 f.2))) ∧ Good w5 u)
            (first | with_reducible assumption | with_reducible exact HC5.out _ (Good.alloc (And.right (by assumption)) _) | with_reducible exact HC5.out _ (Good.set4 (And.right (by assumption)) _ _ _ _ _ (by omega)))
            ((go_at_call 83; refine (HP5.out _ _ (And.right (by assumption))).mono ?_; rintro e w6 ⟨rfl, hg6, hb6⟩; have hS6 := HC5.out _ hg6; have z6 := hg6.size; (first | with_reducible have bx := Box4.up bx hb6 | with_reducible have bx := Box4.up (Box4.new0 _) hb6 | with_reducible have bx := Box4.up (Box4.new0d _) hb6 | skip); (try (obtain ⟨bc0, bc1, bc2, bc3⟩ := bx.cells; have bz0 := bx.frozen 0; have bz1 := bx.frozen 1; have bz2 := bx.frozen 2; have bz3 := bx.frozen 3))))
          all_goals
            go_wp2_with fail
            go_meet
            first
              | (have hbx := bx; exact ⟨_, rfl, by omega, S5.up (Good.set4 hg6 _ _ _ _ _ (by omega)), bx.set4 ⟨f.1, f.2, 0, Tf f.1 != Tf f.2⟩⟩)
              | exact ⟨_, rfl, by omega, S5.up (Good.alloc hg6 _), Box4.new w6 ⟨f.1, f.2, 0, Tf f.1 != Tf f.2⟩ _ rfl⟩
        case rest =>
          obtain ⟨b3, rfl, hb3, S7, hx7⟩ := hcut
          have S7d := S7.drew
          have X7d : Box4 wc.drew b3 ⟨f.1, f.2, 0, Tf f.1 != Tf f.2⟩ := hx7.out
          have HP7 := hideIt (HPu.out _ S7d (Tf f.1 != Tf f.2))
          generalize (Tf f.1 != Tf f.2) = tb at *
          have s7 := S7.size
          clear HP5 HC5 s5 S5 S2 s2 S1 zW HK Hls HPu
          go_upto_region 6 with fail
          go_region_held3 (fun u => (u.cell? ⟨w.heap.size, 0, none⟩ = some (.int .i64 (nn : Int)) ∧ u.cell? ⟨w.heap.size, 1, none⟩ = some (.slice a n c)) ∧ u.cell? ⟨b3, 0, none⟩ = some (.int .i64 f.1) ∧ u.cell? ⟨b3, 1, none⟩ = some (.int .i64 f.2) ∧ u.cell? ⟨b3, 2, none⟩ = some (.int .i64 0) ∧ u.cell? ⟨b3, 3, none⟩ = some (.bool tb))
            (first | with_reducible assumption | exact heldWset S8 X8 hb3 _ _ | exact heldW S8 X8 | exact heldW S7d X7d)
            ((go_at_call 168; refine HP7.out.mono ?_; rintro e w8 ⟨a', m', c', rfl, hown8, hb8⟩; have S8 := S7d.up hb8; have X8 := X7d.up hb8; obtain ⟨⟨r0, r1⟩, r2, r3⟩ := S8.out))
          all_goals
            have hown9 : w8.ownsRow wc.heap.size 52 4 (.slice a' m' c') m' (lcells (putL ls ⟨f.1, f.2, 0, tb⟩)) := hown8
            go_wp2
            exact bodyPost_ret (v := .tuple #[.agg #[.int .i64 (nn : Int), .slice a' m' c'], .bool true]) (by simp [results, Tryz.results104, go_sem, r0, r1]) rfl (wans_yes S8 HW.out (by omega) hown9)
      · have HW := hideIt (waO_no (N := (nn : Int)) (ls := ls) (f := f) (fun h => hy h.2))
        have hO2 : O = none := by rw [← HO.out]; exact addE_no hW HW.out
        subst hO2
        simp only [Option.isSome_none] at hfl
        subst hfl
        clear hW hts hall hy HGr HAd hA HO Hls hE2
        go_wp2_with (go_at_call 20; refine HG.out.mono ?_; rintro e w3 ⟨rfl, hb3⟩; refine Hid.out ?_)
        refine (show ∀ {p : Prop}, p → Hid p from fun h => h) ?_
        have S3 := S2.up hb3
        obtain ⟨⟨r0, r1⟩, r2, r3⟩ := S3.out
        have s3 := S3.size
        have HA3 := hideIt (wans_no S3 HW.out)
        clear k0 k1 k2 k3 hb3 HG
        go_wp2
        exact bodyPost_ret (v := .tuple #[.agg #[.int .i64 0, .slice none 0 0], .bool false]) (by simp [results, Tryz.results104, go_sem, r0, r1]) rfl HA3.out
    · have HG0 := sWebOk_any N ls n a c hn _ (hA.out _ S2)
      rw [wB_no hW] at HG0
      have HG := hideIt HG0
      have HW := hideIt (waO_no (N := N) (ls := ls) (f := f) (fun h => hW h.1))
      clear HG0 hW HGr HAd hA HO Hls hE2
      go_wp2_with (go_at_call 20; refine HG.out.mono ?_; rintro e w3 ⟨rfl, hb3⟩; refine Hid.out ?_)
      refine (show ∀ {p : Prop}, p → Hid p from fun h => h) ?_
      have S3 := S2.up hb3
      obtain ⟨⟨r0, r1⟩, r2, r3⟩ := S3.out
      have s3 := S3.size
      have HA3 := hideIt (wans_no S3 HW.out)
      clear k0 k1 k2 k3 hb3 HG
      go_wp2
      exact bodyPost_ret (v := .tuple #[.agg #[.int .i64 0, .slice none 0 0], .bool false]) (by simp [results, Tryz.results104, go_sem, r0, r1]) rfl HA3.out
end Go.Proofs.YtpfkfbmghddepaaGreat
