/- The specification's l08Tree. The specification's Reroot. The specification's walk along all edges. The specification's TourOf, where there is no ring. The specification's walk where it meets a ring. The specification's TourOf where there is a ring. -/
import Derived.Test.YtkkplppcgnikoaaGreatKSAdd9
import Derived.Test.YtkkplppcgnikoaaGreatKMk7
import Derived.Test.YtkkplppcgnikoaaGreatKBx7
import Derived.Test.YtkkplppcgnikoaaGreatKLb9
namespace Go.Proofs.YtkkplppcgnikoaaGreat
open Go.RowKit

set_option maxRecDepth 100000 in
set_option maxHeartbeats 4000000 in
theorem l08Tree_any (N : Int) (ls : List Ld) (lv : Int) (n : Nat) (a : Option Addr) (c : Nat) (hn : n ≤ 1048576) (w : World) (h : Ls w w.heap.size a n ls) :
    Calls Tryz.prog 170 #[.agg #[.int .i64 N, .slice a n c], .int .i64 lv] w fun e w' => ∃ g m c', e = .returned (.slice (some ⟨g, 0, none⟩) m c') ∧ w'.ownsRow w.heap.size 28 2 (.slice (some ⟨g, 0, none⟩) m c') m (ecells (fE ls lv)) ∧ Below w.heap.size w w' := by
  obtain ⟨i0, hi, hz0, hz1, hz2⟩ := info_parts infoIE
  have HR := hideIt h
  have hlen := h.1
  have HS0 := hideIt (FSt.start w N a n c)
  clear h
  go_enter Tryz.func170, Tryz.ntmps170
  go_wp2
  go_loopw [5, 6] (fun r i wr => ∃ (k g m c' : Nat), k ≤ n ∧ m ≤ k ∧ i = .int .i64 (k : Int) ∧ r = .slice (some ⟨g, 0, none⟩) m c' ∧ FSt w N a n c g m c' (fE (ls.take k) lv) wr) (fun _ i _ => n - (intOf i).toNat)
  case atStart => exact ⟨0, _, 0, 0, by omega, by omega, rfl, rfl, HS0.out⟩
  case round =>
    obtain ⟨k, g, m, c', hk, hm, rfl, rfl, hst⟩ := hrel
    clear HS0
    have hz := hst.size
    obtain ⟨cw0, cw1⟩ := wW_cells hst.bel
    by_cases hlt : k < n
    · obtain ⟨b, off, x, rfl, hbl, hxk, hat⟩ := (HR.out.below hst.good (Nat.le_refl _)).at hlt
      have e0 := hat.ca
      have e1 := hat.cb
      have e2 := hat.cl
      have e3 := hat.ct
      have b1 : (0 : Int) ≤ (k : Int) := by omega
      have b2 : (k : Int) < (n : Int) := by omega
      have hba : Below wr.heap.size wr (wr.alloc (.cells #[.int .i64 x.a, .int .i64 x.b, .int .i64 x.l, .bool x.t] 52)) := (Below.refl _ _).alloc (Nat.le_refl _) _
      have HS1 := hideIt (hst.up hba)
      cases hp : fP lv x with
      | true =>
        have HF := hideIt (fE_take_yes hxk hp)
        unfold fP at hp
        rw [Bool.and_eq_true, decide_eq_true_eq] at hp
        obtain ⟨ht, hle⟩ := hp
        rw [ht] at e3 HS1
        have z2 := HS1.out.size
        simp at z2
        clear hxk hat hba hst
        go_wp2_with (at_builtin; refine wpList_append_own _ rfl _ _ 31 rfl (w.heap.size + 1) 28 i0 _ 2 16 Tryz.underlying31 hi hz0 hz1 hz2 rfl (by decide) _ _ _ rfl (HS1.out.own.alloc _) ⟨wr.heap.size + 1, 0, none⟩ 1 1 [.int .i64 x.a, .int .i64 x.b] rfl rfl (by have := newsE9 (wr.alloc (.cells #[.int .i64 x.a, .int .i64 x.b, .int .i64 x.l, .bool true] 52)) (x.a, x.b); simpa using this) (by intro u hu; simp at hu; rcases hu with rfl | rfl <;> rfl) (by unfold maxLen; omega) (by omega) (by simp; omega) ?_)
        intro v2 w2 hown2 hg2 hn2
        obtain ⟨g2, c2, rfl, hst2⟩ := HS1.out.app (e := (x.a, x.b)) hown2 hg2
        have HS3 := hideIt hst2
        clear hown2 hg2 hn2 hst2 HS1 e0 e1 e2 e3
        go_wp2
        exact ⟨⟨k + 1, g2, m + 1, c2, by omega, by omega, by go_num, rfl, by rw [HF.out]; exact HS3.out⟩, by simp [intOf]; omega⟩
      | false =>
        have HF := hideIt (fE_take_no hxk hp)
        clear hxk hat hba hst
        cases ht : x.t with
        | false =>
          rw [ht] at e3 HS1
          clear hp
          go_wp2
          exact ⟨⟨k + 1, g, m, c', by omega, by omega, by go_num, rfl, by rw [HF.out]; exact HS1.out⟩, by simp [intOf]; omega⟩
        | true =>
          rw [ht] at e3 HS1
          have hle : ¬ lv ≤ x.l := fun h2 => by unfold fP at hp; rw [ht, decide_eq_true h2] at hp; cases hp
          clear hp
          go_wp2
          exact ⟨⟨k + 1, g, m, c', by omega, by omega, by go_num, rfl, by rw [HF.out]; exact HS1.out⟩, by simp [intOf]; omega⟩
    · have e : ls.take k = ls := List.take_of_length_le (by omega)
      rw [e] at hst
      have HST := hideIt hst
      clear hst e
      go_wp2
      go_ret
      exact ⟨g, m, c', rfl, own_mono HST.out.own (by omega), HST.out.good⟩
end Go.Proofs.YtkkplppcgnikoaaGreat
namespace Go.Proofs.YtkkplppcgnikoaaGreat
open Go.RowKit

end Go.Proofs.YtkkplppcgnikoaaGreat
namespace Go.Proofs.YtkkplppcgnikoaaGreat
open Go.RowKit

/-- the table of what was seen -/
structure Arr (u : World) (gs n : Nat) (seen : List Int) : Prop where
  cell : ∀ j : Nat, j < n → u.cell? ⟨gs, j, none⟩ = some (.bool (decide ((j : Int) ∈ seen)))
  frz : ∀ j : Nat, u.frozen? ⟨gs, j, none⟩ = false
  lt : gs < u.heap.size
theorem Arr.up {u v : World} {gs n : Nat} {seen : List Int} (h : Arr u gs n seen) (hb : Below u.heap.size u v) : Arr v gs n seen :=
  ⟨fun j hj => by rw [hb.cell (p := ⟨gs, j, none⟩) h.lt]; exact h.cell j hj, fun j => by rw [hb.frozen (p := ⟨gs, j, none⟩) h.lt]; exact h.frz j, Nat.lt_of_lt_of_le h.lt hb.size⟩
theorem Arr.put {u : World} {gs n : Nat} {seen : List Int} (h : Arr u gs n seen) (x : Nat) (hx : x < n) : Arr (u.setCell ⟨gs, x, none⟩ (.bool true)) gs n ((x : Int) :: seen) := by
  refine ⟨fun j hj => ?_, fun j => ?_, by simp [World.setCell]; exact h.lt⟩
  · by_cases hjx : j = x
    · subst hjx
      rw [World.cell?_setCell_same u ⟨gs, j, none⟩ _ (h.cell j hj)]
      simp
    · rw [World.cell?_setCell_other]
      · rw [h.cell j hj]
        have : ¬ ((j : Int) = (x : Int)) := by omega
        simp [this]
      · exact fun e => hjx (by simpa using e.symm)
  · rw [World.frozen?_setCell]; exact h.frz j
/-- the walk under way: the list in the making, and the table -/
structure WSt (w : World) (gs n : Nat) (a : Option Addr) (m c : Nat) (out seen : List Int) (u : World) : Prop where
  own : u.ownsRow w.heap.size 3 1 (.slice a m c) m (ic out)
  arr : Arr u gs n seen
  grown : w.grownBy u (some gs)
theorem Es.grown {w u : World} {gs : Nat} {a : Option Addr} {n : Nat} {fs : List EdgeV} (h : Es w gs a n fs) (hgs : gs ≤ w.heap.size) (hg : w.grownBy u (some gs)) : Es u gs a n fs := by
  refine ⟨h.1, h.2.imp id ?_⟩
  rintro ⟨b, off, h1, h2, h3⟩
  have hb : u.heap[b]? = w.heap[b]? := hg.block b (by omega) (by simp; omega)
  exact ⟨b, off, h1, h2, fun j x hx => by
    have := h3 j x hx
    rw [World.cell?_of_block (w := w) (a := ⟨b, _, none⟩) hb, World.cell?_of_block (w := w) (a := ⟨b, _, none⟩) hb]
    exact this⟩
theorem wkGo_len {rec : Int → Int → List Int → Option (List Int × List Int)} {es : List EdgeV} {n : Nat} {v fr : Int} {rem : Nat} {out seen t sn : List Int} (h : wkGo rec es n v fr rem out seen = some (t, sn)) : out.length ≤ t.length := by
  induction rem generalizing out seen with
  | zero => simp [wkGo] at h; rw [h.1]; exact Nat.le_refl _
  | succ rem ih =>
    rw [wkGo] at h
    split at h
    · exact ih h
    · split at h
      · simp at h
      · cases hr : rec ((n - (rem + 1) : Nat) : Int) v seen with
        | none => rw [hr] at h; simp at h
        | some p =>
          rw [hr] at h
          have := ih h
          simp at this
          omega
theorem grown_up {w u v : World} {G : Nat} (h : w.grownBy u (some G)) (hb : Below w.heap.size u v) : w.grownBy v (some G) :=
  ⟨hb.os.trans h.os, hb.tape.trans h.tape, hb.output.trans h.output, Nat.le_trans h.size hb.size, fun k hk hr => (hb.block k hk).trans (h.block k hk hr)⟩
theorem WSt.up {w : World} {gs n : Nat} {a : Option Addr} {m c : Nat} {out seen : List Int} {u v : World} (h : WSt w gs n a m c out seen u) (hb : Below u.heap.size u v) : WSt w gs n a m c out seen v :=
  ⟨own_up h.own hb, h.arr.up hb, grown_up h.grown (hb.mono h.grown.size)⟩
theorem WSt.turned {w : World} {gs n : Nat} {a : Option Addr} {m c : Nat} {out seen sn : List Int} {u v : World} (h : WSt w gs n a m c out seen u) (hgs : gs < w.heap.size) (hg : u.grownBy v (some gs)) (ha : Arr v gs n sn) : WSt w gs n a m c out sn v :=
  ⟨World.ownsRow.kept h.own hg (.inr (fun e => by have := (h.own.lt gs e).1; omega)), ha, grown_trans h.grown hg⟩
theorem WSt.app {w : World} {gs n : Nat} {a : Option Addr} {m c : Nat} {out seen : List Int} {u : World} (h : WSt w gs n a m c out seen u) (hgs : gs < w.heap.size) {xs : List Int} {m3 : Nat} {v : Value} {u' : World}
    (ho : u'.ownsRow w.heap.size 3 1 v (m + m3) (ic out ++ ic xs)) (hg : u.grownBy u' (Value.slice a m c).ownBlock) : ∃ a' c', v = .slice a' (m + m3) c' ∧ WSt w gs n a' (m + m3) c' (out ++ xs) seen u' := by
  obtain ⟨a', c', rfl⟩ := own_form ho
  rw [← ic_append] at ho
  have hb : Below w.heap.size u u' := (Below.refl _ u).grown hg h.grown.size (fun j hj => (h.own.lt j hj).1)
  have hne : (Value.slice a m c).ownBlock ≠ some gs := fun e => by have := (h.own.lt gs e).1; omega
  have hbl : u'.heap[gs]? = u.heap[gs]? := hg.block gs h.arr.lt (fun e => hne e.symm)
  exact ⟨a', c', rfl, ho, ⟨fun j hj => by rw [World.cell?_of_block (w := u) (a := ⟨gs, j, none⟩) hbl]; exact h.arr.cell j hj, fun j => by rw [World.frozen?_of_block (w := u) (a := ⟨gs, j, none⟩) hbl]; exact h.arr.frz j, Nat.lt_of_lt_of_le h.arr.lt hg.size⟩, grown_up h.grown hb⟩
theorem WSt.len {w : World} {gs n : Nat} {a : Option Addr} {m c : Nat} {out seen : List Int} {u : World} (h : WSt w gs n a m c out seen u) : out.length = m := by have := h.own.1; rw [ic_len] at this; omega
theorem wk_head {es : List EdgeV} {n f : Nat} {v fr : Int} {seen t sn : List Int} (h : wk es n f v fr seen = some (t, sn)) : 0 < t.length := by
  cases f with
  | zero => simp [wk] at h
  | succ f => rw [wk] at h; have := wkGo_len h; simp at this; omega
set_option maxRecDepth 100000 in
set_option maxHeartbeats 8000000 in
theorem l06Walk_any (es : List EdgeV) (n ne : Nat) (a : Option Addr) (c gs cs : Nat) (hn : n ≤ 12) (hne : ne ≤ 1000) (f : Nat) : ∀ (v : Nat) (fr : Int) (seen : List Int) (w : World) (t sn : List Int), wk es n f (v : Int) fr seen = some (t, sn) → t.length ≤ 1000 → v < n → Es w gs a ne es → Arr w gs n seen →
    Calls Tryz.prog 244 #[.int .i64 (n : Int), .slice a ne c, .int .i64 (v : Int), .int .i64 fr, .slice (some ⟨gs, 0, none⟩) n cs] w fun e w' => ∃ a' m c', e = .returned (.tuple #[.slice a' m c', .bool false]) ∧ w'.ownsRow w.heap.size 3 1 (.slice a' m c') m (ic t) ∧ w.grownBy w' (some gs) ∧ Arr w' gs n sn := by
  obtain ⟨i0, hi, hz0, hz1, hz2⟩ := info_parts info3i
  induction f with
  | zero => intro v fr seen w t sn h; simp [wk] at h
  | succ f ih =>
    intro v fr seen w t sn hwk htl hvn hes harr
    have IH := hideIt ih
    clear ih
    rw [wk] at hwk
    have HW := hideIt hwk
    clear hwk
    have HE := hideIt hes
    have hgl := harr.lt
    have b1 : (0 : Int) ≤ (v : Int) := by omega
    have b2 : (v : Int) < (n : Int) := by omega
    have c0 := harr.cell v hvn
    have c1 := harr.frz v
    have H0 : Hid (WSt w gs n (some ⟨w.heap.size, 0, none⟩) 1 1 [(v : Int)] ((v : Int) :: seen) ((w.setCell ⟨gs, v, none⟩ (.bool true)).alloc (.cells #[.int .i64 (v : Int)] 3))) := by
      have hsz : (w.setCell ⟨gs, v, none⟩ (.bool true)).heap.size = w.heap.size := by simp [World.setCell]
      have o1 := World.ownsRow_lit (base := w.heap.size) (e := 3) (size := 1) (w.setCell ⟨gs, v, none⟩ (.bool true)) #[.int .i64 (v : Int)] 1 (by rw [hsz]; exact Nat.le_refl _) (by unfold maxLen; omega) (by simp)
      rw [hsz] at o1
      have hb := (Below.refl _ (w.setCell ⟨gs, v, none⟩ (.bool true))).alloc (Nat.le_refl _) (.cells #[.int .i64 (v : Int)] 3)
      exact ⟨by simpa [ic] using o1, (harr.put v hvn).up hb, grown_trans (grownSet _ gs v _) (grown_of_below hb _)⟩
    clear hes harr
    go_enter Tryz.func244, Tryz.ntmps244
    go_wp2
    go_loopw [12, 13] (fun r i wr => ∃ (k m c1 : Nat) (a1 : Option Addr) (out sk : List Int), k ≤ n ∧ i = .int .i64 (k : Int) ∧ r = .slice a1 m c1 ∧ Hid (wkGo (wk es n f) es n (v : Int) fr (n - k) out sk = some (t, sn)) ∧ Hid (WSt w gs n a1 m c1 out sk wr)) (fun _ i _ => n - (intOf i).toNat)
    case atStart => exact ⟨0, 1, 1, _, [(v : Int)], (v : Int) :: seen, by omega, rfl, rfl, HW, H0⟩
    case round =>
      obtain ⟨k, m, c2, a1, out, sk, hk, rfl, rfl, HG, HS⟩ := hrel
      clear H0 HW c0 c1
      have hml := HS.out.len
      by_cases hlt : k < n
      · have b3 : (0 : Int) ≤ (k : Int) := by omega
        have b4 : (k : Int) < (n : Int) := by omega
        by_cases hvk : (v : Int) < (k : Int)
        · have d1 : decide ((v : Int) < (k : Int)) = true := decide_eq_true hvk
          have HEe : Hid (mkE (v : Int) (k : Int) = ((v : Int), (k : Int))) := by show _ = _; unfold mkE; rw [if_pos hvk]
          have hb1 : Below wr.heap.size wr (wr.alloc (.cells #[.int .i64 (v : Int), .int .i64 (k : Int)] 28)) := (Below.refl _ _).alloc (Nat.le_refl _) _
          have HS1 := hideIt (HS.out.up hb1)
          clear hb1
          obtain ⟨rem, hrem⟩ : ∃ rem, n - k = rem + 1 := ⟨n - k - 1, by omega⟩
          have hrem2 : n - (k + 1) = rem := by omega
          have hrem3 : n - (rem + 1) = k := by omega
          rw [hrem] at HG
          have Hrem := hideIt (And.intro hrem (And.intro hrem2 hrem3))
          clear hrem hrem2 hrem3
          by_cases hkf : (k : Int) = fr
          · have d2 : ((k : Int) == fr) = true := by simpa using hkf
            have HG2 : Hid (wkGo (wk es n f) es n (v : Int) fr (n - (k + 1)) out sk = some (t, sn)) := by show _ = _; rw [Hrem.out.2.1, ← wkGo_skip Hrem.out.2.2 (.inl hkf)]; exact HG.out
            clear HG HS hkf
            go_wp2
            exact ⟨⟨k + 1, m, c2, a1, out, sk, by omega, by go_num, rfl, HG2, HS1⟩, by simp [intOf]; omega⟩
          · have d2 : ((k : Int) == fr) = false := by simpa using hkf
            have HH := hideIt (l05Has_any es ((v : Int), (k : Int)) ne a c (by omega) _ ((HE.out.grown (by omega) HS1.out.grown).mono (by have := HS1.out.grown.size; omega)))
            cases hb : hasB es ((v : Int), (k : Int)) with
            | false =>
              rw [hb] at HH
              have HG2 : Hid (wkGo (wk es n f) es n (v : Int) fr (n - (k + 1)) out sk = some (t, sn)) := by
                show _ = _
                rw [Hrem.out.2.1, ← wkGo_skip Hrem.out.2.2 (.inr (by rw [HEe.out]; exact of_decide_eq_false hb))]
                exact HG.out
              clear HG HS hb
              go_wp2_with (go_at_call 68; refine HH.out.mono ?_; rintro e w3 ⟨rfl, hb3⟩)
              exact ⟨⟨k + 1, m, c2, a1, out, sk, by omega, by go_num, rfl, HG2, hideIt (HS1.out.up hb3)⟩, by simp [intOf]; omega⟩
            | true =>
              rw [hb] at HH
              obtain ⟨hks, p, hp, hgo⟩ := wkGo_go Hrem.out.2.2 hkf (by rw [HEe.out]; exact of_decide_eq_true hb) HG.out
              have hln := wkGo_len hgo
              simp at hln
              have hp0 := wk_head hp
              have HG2 : Hid (wkGo (wk es n f) es n (v : Int) fr (n - (k + 1)) (out ++ p.1 ++ [(v : Int)]) p.2 = some (t, sn)) := by show _ = _; rw [Hrem.out.2.1]; exact hgo
              have HP := hideIt hp
              have HK := hideIt hks
              clear HG HS hb hp hgo hks Hrem
              go_wp2_with (go_at_call 68; refine HH.out.mono ?_; rintro e w3 ⟨rfl, hb3⟩; refine Hid.out ?_)
              refine (show ∀ {p : Prop}, p → Hid p from fun h => h) ?_
              have HS3 := hideIt (HS1.out.up hb3)
              have e0 := HS3.out.arr.cell k hlt
              rw [decide_eq_false HK.out] at e0
              have HR := hideIt (IH.out k (v : Int) sk w3 p.1 p.2 HP.out (by omega) hlt (HE.out.grown (by omega) HS3.out.grown) HS3.out.arr)
              clear HS1 HH hb3
              go_wp2_with (go_at_call 244; refine HR.out.mono ?_; rintro e w4 ⟨a4, m4, c4, rfl, ho4, hg4, har4⟩; refine Hid.out ?_)
              refine (show ∀ {p : Prop}, p → Hid p from fun h => h) ?_
              have HS4 := hideIt (HS3.out.turned hgl hg4 har4)
              have I4 := Is_of_own ho4
              have hm4 : p.1.length = m4 := I4.1
              obtain ⟨g4, c4', hform, _⟩ := ho4.form (by omega)
              simp at hform
              obtain ⟨rfl, rfl⟩ := hform
              have HN4 := hideIt I4.news
              have HN4l : Hid ((ic p.1).length = m4 * 1) := by show _ = _; rw [ic_len]; omega
              have z4 := HS4.out.grown.size
              clear HS3 HR ho4 hg4 har4 e0 I4
              go_wp2_with (at_builtin; refine wpList_append_own _ rfl _ _ 44 rfl w.heap.size 3 i0 _ 1 8 Tryz.underlying44 hi hz0 hz1 hz2 rfl (by decide) _ _ _ rfl HS4.out.own ⟨g4, 0, none⟩ m4 c4 (ic p.1) rfl HN4l.out HN4.out ic_one (by unfold maxLen; omega) (by omega) z4 ?_)
              intro v5 w5 hown5 hg5 _
              obtain ⟨a5, c5, rfl, S5⟩ := HS4.out.app hgl hown5 hg5
              clear hown5 hg5 HS4 HN4 HN4l
              refine Hid.out ?_
              refine (show ∀ {p : Prop}, p → Hid p from fun h => h) ?_
              have HS5 := hideIt (S5.up ((Below.refl _ w5).alloc (Nat.le_refl _) (.cells #[.int .i64 (v : Int)] 3)))
              have z5 := HS5.out.grown.size
              simp at z5
              clear S5
              go_wp2_with (at_builtin; refine wpList_append_own _ rfl _ _ 44 rfl w.heap.size 3 i0 _ 1 8 Tryz.underlying44 hi hz0 hz1 hz2 rfl (by decide) _ _ _ rfl HS5.out.own ⟨w5.heap.size, 0, none⟩ 1 1 [.int .i64 (v : Int)] rfl rfl (newsI w5 (v : Int)) (by intro u hu; simp at hu; subst hu; rfl) (by unfold maxLen; omega) (by omega) (by simp; omega) ?_)
              intro v6 w6 hown6 hg6 _
              obtain ⟨a6, c6, rfl, S6⟩ := HS5.out.app hgl (xs := [(v : Int)]) hown6 hg6
              have HS6 := hideIt S6
              clear hown6 hg6 HS5 S6
              go_wp2
              exact ⟨⟨k + 1, _, c6, a6, _, p.2, by omega, by go_num, rfl, HG2, HS6⟩, by simp [intOf]; omega⟩
        · have d1 : decide ((v : Int) < (k : Int)) = false := decide_eq_false hvk
          have HEe : Hid (mkE (v : Int) (k : Int) = ((k : Int), (v : Int))) := by show _ = _; unfold mkE; rw [if_neg hvk]
          have hb1 : Below wr.heap.size wr (wr.alloc (.cells #[.int .i64 (k : Int), .int .i64 (v : Int)] 28)) := (Below.refl _ _).alloc (Nat.le_refl _) _
          have HS1 := hideIt (HS.out.up hb1)
          clear hb1
          obtain ⟨rem, hrem⟩ : ∃ rem, n - k = rem + 1 := ⟨n - k - 1, by omega⟩
          have hrem2 : n - (k + 1) = rem := by omega
          have hrem3 : n - (rem + 1) = k := by omega
          rw [hrem] at HG
          have Hrem := hideIt (And.intro hrem (And.intro hrem2 hrem3))
          clear hrem hrem2 hrem3
          by_cases hkf : (k : Int) = fr
          · have d2 : ((k : Int) == fr) = true := by simpa using hkf
            have HG2 : Hid (wkGo (wk es n f) es n (v : Int) fr (n - (k + 1)) out sk = some (t, sn)) := by show _ = _; rw [Hrem.out.2.1, ← wkGo_skip Hrem.out.2.2 (.inl hkf)]; exact HG.out
            clear HG HS hkf
            go_wp2
            exact ⟨⟨k + 1, m, c2, a1, out, sk, by omega, by go_num, rfl, HG2, HS1⟩, by simp [intOf]; omega⟩
          · have d2 : ((k : Int) == fr) = false := by simpa using hkf
            have HH := hideIt (l05Has_any es ((k : Int), (v : Int)) ne a c (by omega) _ ((HE.out.grown (by omega) HS1.out.grown).mono (by have := HS1.out.grown.size; omega)))
            cases hb : hasB es ((k : Int), (v : Int)) with
            | false =>
              rw [hb] at HH
              have HG2 : Hid (wkGo (wk es n f) es n (v : Int) fr (n - (k + 1)) out sk = some (t, sn)) := by
                show _ = _
                rw [Hrem.out.2.1, ← wkGo_skip Hrem.out.2.2 (.inr (by rw [HEe.out]; exact of_decide_eq_false hb))]
                exact HG.out
              clear HG HS hb
              go_wp2_with (go_at_call 68; refine HH.out.mono ?_; rintro e w3 ⟨rfl, hb3⟩)
              exact ⟨⟨k + 1, m, c2, a1, out, sk, by omega, by go_num, rfl, HG2, hideIt (HS1.out.up hb3)⟩, by simp [intOf]; omega⟩
            | true =>
              rw [hb] at HH
              obtain ⟨hks, p, hp, hgo⟩ := wkGo_go Hrem.out.2.2 hkf (by rw [HEe.out]; exact of_decide_eq_true hb) HG.out
              have hln := wkGo_len hgo
              simp at hln
              have hp0 := wk_head hp
              have HG2 : Hid (wkGo (wk es n f) es n (v : Int) fr (n - (k + 1)) (out ++ p.1 ++ [(v : Int)]) p.2 = some (t, sn)) := by show _ = _; rw [Hrem.out.2.1]; exact hgo
              have HP := hideIt hp
              have HK := hideIt hks
              clear HG HS hb hp hgo hks Hrem
              go_wp2_with (go_at_call 68; refine HH.out.mono ?_; rintro e w3 ⟨rfl, hb3⟩; refine Hid.out ?_)
              refine (show ∀ {p : Prop}, p → Hid p from fun h => h) ?_
              have HS3 := hideIt (HS1.out.up hb3)
              have e0 := HS3.out.arr.cell k hlt
              rw [decide_eq_false HK.out] at e0
              have HR := hideIt (IH.out k (v : Int) sk w3 p.1 p.2 HP.out (by omega) hlt (HE.out.grown (by omega) HS3.out.grown) HS3.out.arr)
              clear HS1 HH hb3
              go_wp2_with (go_at_call 244; refine HR.out.mono ?_; rintro e w4 ⟨a4, m4, c4, rfl, ho4, hg4, har4⟩; refine Hid.out ?_)
              refine (show ∀ {p : Prop}, p → Hid p from fun h => h) ?_
              have HS4 := hideIt (HS3.out.turned hgl hg4 har4)
              have I4 := Is_of_own ho4
              have hm4 : p.1.length = m4 := I4.1
              obtain ⟨g4, c4', hform, _⟩ := ho4.form (by omega)
              simp at hform
              obtain ⟨rfl, rfl⟩ := hform
              have HN4 := hideIt I4.news
              have HN4l : Hid ((ic p.1).length = m4 * 1) := by show _ = _; rw [ic_len]; omega
              have z4 := HS4.out.grown.size
              clear HS3 HR ho4 hg4 har4 e0 I4
              go_wp2_with (at_builtin; refine wpList_append_own _ rfl _ _ 44 rfl w.heap.size 3 i0 _ 1 8 Tryz.underlying44 hi hz0 hz1 hz2 rfl (by decide) _ _ _ rfl HS4.out.own ⟨g4, 0, none⟩ m4 c4 (ic p.1) rfl HN4l.out HN4.out ic_one (by unfold maxLen; omega) (by omega) z4 ?_)
              intro v5 w5 hown5 hg5 _
              obtain ⟨a5, c5, rfl, S5⟩ := HS4.out.app hgl hown5 hg5
              clear hown5 hg5 HS4 HN4 HN4l
              refine Hid.out ?_
              refine (show ∀ {p : Prop}, p → Hid p from fun h => h) ?_
              have HS5 := hideIt (S5.up ((Below.refl _ w5).alloc (Nat.le_refl _) (.cells #[.int .i64 (v : Int)] 3)))
              have z5 := HS5.out.grown.size
              simp at z5
              clear S5
              go_wp2_with (at_builtin; refine wpList_append_own _ rfl _ _ 44 rfl w.heap.size 3 i0 _ 1 8 Tryz.underlying44 hi hz0 hz1 hz2 rfl (by decide) _ _ _ rfl HS5.out.own ⟨w5.heap.size, 0, none⟩ 1 1 [.int .i64 (v : Int)] rfl rfl (newsI w5 (v : Int)) (by intro u hu; simp at hu; subst hu; rfl) (by unfold maxLen; omega) (by omega) (by simp; omega) ?_)
              intro v6 w6 hown6 hg6 _
              obtain ⟨a6, c6, rfl, S6⟩ := HS5.out.app hgl (xs := [(v : Int)]) hown6 hg6
              have HS6 := hideIt S6
              clear hown6 hg6 HS5 S6
              go_wp2
              exact ⟨⟨k + 1, _, c6, a6, _, p.2, by omega, by go_num, rfl, HG2, HS6⟩, by simp [intOf]; omega⟩
      · obtain rfl : k = n := by omega
        have HT : Hid (out = t ∧ sk = sn) := by
          show _ ∧ _
          have := HG.out
          rw [Nat.sub_self, wkGo] at this
          simpa using this
        clear HG
        go_wp2
        go_ret2
        exact ⟨a1, m, c2, rfl, by rw [← HT.out.1]; exact HS.out.own, HS.out.grown, by rw [← HT.out.2]; exact HS.out.arr⟩
end Go.Proofs.YtkkplppcgnikoaaGreat
namespace Go.Proofs.YtkkplppcgnikoaaGreat
open Go.RowKit

theorem info4b : (Tryz.prog.info? 4).map (fun i => (i.zero, i.size, i.bytes)) = some (some (.bool false), 1, 1) := by kernel_rfl
theorem arr_made (w : World) (n : Nat) : Arr (w.alloc (.cells (madeCells #[.bool false] n) 4)) w.heap.size n [] := by
  have hb : (w.alloc (.cells (madeCells #[.bool false] n) 4)).heap[w.heap.size]? = some (.cells (madeCells #[.bool false] n) 4 (0, 0)) := heap_alloc_new w _
  refine ⟨fun j hj => ?_, fun j => frozen_of_row _ _ j _ _ hb, by simp⟩
  rw [cell_of_row _ _ j _ _ _ hb]
  simp [madeCells, hj, Nat.mod_one]
set_option maxRecDepth 100000 in
set_option maxHeartbeats 4000000 in
theorem sTourOf_any (es : List EdgeV) (n ne r : Nat) (a : Option Addr) (c : Nat) (t sn : List Int) (hn0 : 1 ≤ n) (hn : n ≤ 12) (hne : ne ≤ 1000) (hr : r < n) (hok : ∀ e ∈ es, eB (n : Int) e = true) (hwk : wk es n n (r : Int) (-1) [] = some (t, sn)) (htl : t.length ≤ 1000) (w : World) (h : Es w w.heap.size a ne es) :
    Calls Tryz.prog 172 #[.int .i64 (n : Int), .slice a ne c, .int .i64 (r : Int)] w fun e w' => ∃ a' m c', e = .returned (.tuple #[.slice a' m c', .bool true]) ∧ w'.ownsRow w.heap.size 3 1 (.slice a' m c') m (ic t) ∧ Below w.heap.size w w' := by
  obtain ⟨i0, hi, hz0, hz1, hz2⟩ := info_parts info4b
  have HM : Hid (∀ u : World, (Instr.makeSlice 274 (.int .i64 (n : Int)) (.int .i64 (n : Int))).run Tryz.prog u =
      .ok (.slice (some ⟨u.heap.size, 0, none⟩) n n) (u.alloc (.cells (madeCells #[.bool false] n) 4))) := fun u => by
    have h := run_make (P := Tryz.prog) u 274 4 i0 _ Tryz.underlying274 hi hz0 .i64 .i64 (n : Int) (n : Int) (by omega) (by omega) (by rw [hz2]; omega) (by omega)
    rw [Int.toNat_natCast] at h
    simpa [hz1, Value.cells] using h
  have HE := hideIt h
  have HOk := hideIt hok
  have hlen := h.1
  have HI1 := l01In_any (n : Int) 1 12 w
  rw [decide_eq_true (by omega)] at HI1
  have HI1 := hideIt HI1
  have HI2 := l01In_any (r : Int) 0 ((n : Int) - 1) w
  rw [decide_eq_true (by omega)] at HI2
  have HI2 := hideIt HI2
  have HWk : Hid (∀ u, Below w.heap.size w u → Calls Tryz.prog 244 #[.int .i64 (n : Int), .slice a ne c, .int .i64 (r : Int), .int .i64 (-1), .slice (some ⟨u.heap.size, 0, none⟩) n n] (u.alloc (.cells (madeCells #[.bool false] n) 4)) fun e w' => ∃ a' m c', e = .returned (.tuple #[.slice a' m c', .bool false]) ∧ w'.ownsRow w.heap.size 3 1 (.slice a' m c') m (ic t) ∧ Below w.heap.size w w') := fun u hu => by
    have hb : Below u.heap.size u (u.alloc (.cells (madeCells #[.bool false] n) 4)) := (Below.refl _ _).alloc (Nat.le_refl _) _
    refine (l06Walk_any es n ne a c u.heap.size n hn hne n r (-1) [] _ t sn hwk htl hr ((HE.out.up hu).below hb (Nat.le_refl _)) (arr_made u n)).mono ?_
    rintro e w' ⟨a', m, c', he, ho, hg, _⟩
    exact ⟨a', m, c', he, own_mono ho (by have := hu.size; simp; omega), (hu.trans (hb.mono hu.size)).grown hg (by have := hu.size; simp; omega) (fun j e => by cases e; exact hu.size)⟩
  clear h hok hwk
  go_enter Tryz.func172, Tryz.ntmps172
  go_wp2_with (first | (go_at_call 81; refine HI1.out.mono ?_; clear HI1; rintro e w1 ⟨rfl, hw⟩; have hw' := hw.symm; subst hw'; clear hw) | (go_at_call 81; refine HI2.out.mono ?_; rintro e w1 ⟨rfl, hw⟩; have hw' := hw.symm; subst hw'; clear hw))
  go_loopw [8] (fun i wr => ∃ (k : Nat), k ≤ ne ∧ i = .int .i64 (k : Int) ∧ Good w wr) (fun i _ => ne - (intOf i).toNat)
  case atStart => exact ⟨0, by omega, rfl, Good.refl _⟩
  case round =>
    obtain ⟨k, hk, rfl, hg⟩ := hrel
    by_cases hlt : k < ne
    · rcases HE.out.2 with hz | ⟨b, off, rfl, hbl, hc⟩
      · omega
      · obtain ⟨f, hf⟩ : ∃ f, es[k]? = some f := ⟨es[k]'(by omega), List.getElem?_eq_getElem (by omega)⟩
        have e0 : wr.cell? ⟨b, off + k * 2, none⟩ = some (.int .i64 f.1) := by rw [Below.cell hg hbl]; exact (hc k f hf).1
        have e1 : wr.cell? ⟨b, off + k * 2 + 1, none⟩ = some (.int .i64 f.2) := by rw [Below.cell hg hbl]; exact (hc k f hf).2
        have b1 : (0 : Int) ≤ (k : Int) := by omega
        have b2 : (k : Int) < (ne : Int) := by omega
        have HS := sEdgeOk_any (n : Int) f wr
        rw [HOk.out f (List.mem_of_getElem? hf)] at HS
        have HS := hideIt HS
        clear hc hf
        go_wp2_with (go_at_call 77; refine HS.out.mono ?_; rintro e w1 ⟨rfl, hb1⟩)
        exact ⟨⟨k + 1, by omega, by go_num, hg.up hb1⟩, by simp [intOf]; omega⟩
    · have HW := hideIt (HWk.out wr hg)
      have hmk := HM.out wr
      clear HWk
      go_wp2_with (go_at_call 244; refine HW.out.mono ?_; rintro e w4 ⟨a4, m4, c4, rfl, ho4, hb4⟩)
      go_ret2
      exact ⟨a4, m4, c4, rfl, ho4, hb4⟩
end Go.Proofs.YtkkplppcgnikoaaGreat
namespace Go.Proofs.YtkkplppcgnikoaaGreat
open Go.RowKit

/-- what was seen: each once, vertices; fuel is left; the list is not long -/
structure SkIs (n f m : Nat) (sk : List Int) : Prop where
  nodup : sk.Nodup
  rng : ∀ x ∈ sk, 0 ≤ x ∧ x < (n : Int)
  fuel : n ≤ f + sk.length
  len : m + 1 ≤ 2 * sk.length
theorem SkIs.small {n f m : Nat} {sk : List Int} (h : SkIs n f m sk) (hn : n ≤ 12) : m ≤ 24 := by
  have := nodup_le n sk h.nodup h.rng
  have := h.len
  omega
theorem wk_seen {es : List EdgeV} {n : Nat} (f : Nat) : ∀ (v fr : Int) (seen t sn : List Int), 0 ≤ v → v < (n : Int) → v ∉ seen → seen.Nodup → (∀ x ∈ seen, 0 ≤ x ∧ x < (n : Int)) → wk es n f v fr seen = some (t, sn) → sn.Nodup ∧ (∀ x ∈ sn, 0 ≤ x ∧ x < (n : Int)) ∧ t.length + 2 * seen.length + 1 ≤ 2 * sn.length := by
  induction f with
  | zero => intro v fr seen t sn _ _ _ _ _ h; simp [wk] at h
  | succ f ih =>
    intro v fr seen0 t sn h0 h1 hv hnd hrg h
    rw [wk] at h
    have key : ∀ (rem k : Nat) (out seen : List Int), rem + k = n → (seen.Nodup ∧ (∀ x ∈ seen, 0 ≤ x ∧ x < (n : Int)) ∧ out.length + 2 * seen0.length + 1 ≤ 2 * seen.length) → wkGo (wk es n f) es n v fr rem out seen = some (t, sn) → sn.Nodup ∧ (∀ x ∈ sn, 0 ≤ x ∧ x < (n : Int)) ∧ t.length + 2 * seen0.length + 1 ≤ 2 * sn.length := by
      intro rem
      induction rem with
      | zero =>
        intro k out seen hk hs h
        simp [wkGo] at h
        rw [← h.2, ← h.1]
        exact hs
      | succ rem ihr =>
        intro k out seen hk hs h
        have ek : n - (rem + 1) = k := by omega
        by_cases hc : (k : Int) = fr ∨ mkE v (k : Int) ∉ es
        · rw [wkGo_skip ek hc] at h
          exact ihr (k + 1) out seen (by omega) hs h
        · obtain ⟨hks, p, hp, hgo⟩ := wkGo_go ek (fun e => hc (.inl e)) (Classical.not_not.1 (fun e => hc (.inr e))) h
          obtain ⟨p1, p2, p3⟩ := ih (k : Int) v seen p.1 p.2 (by omega) (by omega) hks hs.1 hs.2.1 hp
          refine ihr (k + 1) _ p.2 (by omega) ⟨p1, p2, ?_⟩ hgo
          have := hs.2.2
          simp
          omega
    refine key n 0 [v] (v :: seen0) (by omega) ⟨List.nodup_cons.2 ⟨hv, hnd⟩, fun x hx => ?_, by simp; omega⟩ h
    rcases List.mem_cons.1 hx with rfl | hx
    · exact ⟨h0, h1⟩
    · exact hrg x hx
theorem SkIs.next {es : List EdgeV} {n f m k : Nat} {v : Int} {sk : List Int} (h : SkIs n f m sk) (hk : (k : Int) ∉ sk) (hkn : k < n) {p : List Int × List Int} (hp : wk es n f (k : Int) v sk = some p) : SkIs n f (m + p.1.length + 1) p.2 := by
  obtain ⟨h1, h2, h3⟩ := wk_seen f (k : Int) v sk p.1 p.2 (by omega) (by omega) hk h.nodup h.rng hp
  have := h.len
  have := h.fuel
  exact ⟨h1, h2, by omega, by omega⟩
set_option maxRecDepth 100000 in
set_option maxHeartbeats 8000000 in
theorem l06Walk_ring (es : List EdgeV) (n ne : Nat) (a : Option Addr) (c gs cs : Nat) (hn : n ≤ 12) (hne : ne ≤ 1000) (f : Nat) : ∀ (v : Nat) (fr : Int) (seen : List Int) (w : World), wk es n f (v : Int) fr seen = none → n ≤ f + seen.length → seen.Nodup → (∀ x ∈ seen, 0 ≤ x ∧ x < (n : Int)) → (v : Int) ∉ seen → v < n → Es w gs a ne es → Arr w gs n seen →
    Calls Tryz.prog 244 #[.int .i64 (n : Int), .slice a ne c, .int .i64 (v : Int), .int .i64 fr, .slice (some ⟨gs, 0, none⟩) n cs] w fun e w' => ∃ a' m c', e = .returned (.tuple #[.slice a' m c', .bool true]) ∧ w.grownBy w' (some gs) := by
  obtain ⟨i0, hi, hz0, hz1, hz2⟩ := info_parts info3i
  induction f with
  | zero =>
    intro v fr seen w _ hf hnd hrg hvs hvn
    have := nodup_le n ((v : Int) :: seen) (List.nodup_cons.2 ⟨hvs, hnd⟩) (fun x hx => by
      rcases List.mem_cons.1 hx with rfl | hx
      · exact ⟨by omega, by omega⟩
      · exact hrg x hx)
    simp at this
    omega
  | succ f ih =>
    intro v fr seen w hwk hf hnd hrg hvs hvn hes harr
    have HI0 : Hid (SkIs n f 1 ((v : Int) :: seen)) := ⟨List.nodup_cons.2 ⟨hvs, hnd⟩, fun x hx => by
      rcases List.mem_cons.1 hx with rfl | hx
      · exact ⟨by omega, by omega⟩
      · exact hrg x hx, by simp; omega, by simp; omega⟩
    clear hnd hrg hvs hf
    have IH := hideIt ih
    clear ih
    rw [wk] at hwk
    have HW := hideIt hwk
    clear hwk
    have HE := hideIt hes
    have hgl := harr.lt
    have b1 : (0 : Int) ≤ (v : Int) := by omega
    have b2 : (v : Int) < (n : Int) := by omega
    have c0 := harr.cell v hvn
    have c1 := harr.frz v
    have H0 : Hid (WSt w gs n (some ⟨w.heap.size, 0, none⟩) 1 1 [(v : Int)] ((v : Int) :: seen) ((w.setCell ⟨gs, v, none⟩ (.bool true)).alloc (.cells #[.int .i64 (v : Int)] 3))) := by
      have hsz : (w.setCell ⟨gs, v, none⟩ (.bool true)).heap.size = w.heap.size := by simp [World.setCell]
      have o1 := World.ownsRow_lit (base := w.heap.size) (e := 3) (size := 1) (w.setCell ⟨gs, v, none⟩ (.bool true)) #[.int .i64 (v : Int)] 1 (by rw [hsz]; exact Nat.le_refl _) (by unfold maxLen; omega) (by simp)
      rw [hsz] at o1
      have hb := (Below.refl _ (w.setCell ⟨gs, v, none⟩ (.bool true))).alloc (Nat.le_refl _) (.cells #[.int .i64 (v : Int)] 3)
      exact ⟨by simpa [ic] using o1, (harr.put v hvn).up hb, grown_trans (grownSet _ gs v _) (grown_of_below hb _)⟩
    clear hes harr
    go_enter Tryz.func244, Tryz.ntmps244
    go_wp2
    go_loopw [12, 13] (fun r i wr => ∃ (k m c1 : Nat) (a1 : Option Addr) (out sk : List Int), k ≤ n ∧ i = .int .i64 (k : Int) ∧ r = .slice a1 m c1 ∧ Hid (wkGo (wk es n f) es n (v : Int) fr (n - k) out sk = none) ∧ Hid (WSt w gs n a1 m c1 out sk wr) ∧ Hid (SkIs n f m sk)) (fun _ i _ => n - (intOf i).toNat)
    case atStart => exact ⟨0, 1, 1, _, [(v : Int)], (v : Int) :: seen, by omega, rfl, rfl, HW, H0, HI0⟩
    case round =>
      obtain ⟨k, m, c2, a1, out, sk, hk, rfl, rfl, HG, HS, HI⟩ := hrel
      clear H0 HW c0 c1 HI0
      have hml := HS.out.len
      have hm24 : m ≤ 24 := HI.out.small hn
      by_cases hlt : k < n
      · have b3 : (0 : Int) ≤ (k : Int) := by omega
        have b4 : (k : Int) < (n : Int) := by omega
        by_cases hvk : (v : Int) < (k : Int)
        · have d1 : decide ((v : Int) < (k : Int)) = true := decide_eq_true hvk
          have HEe : Hid (mkE (v : Int) (k : Int) = ((v : Int), (k : Int))) := by show _ = _; unfold mkE; rw [if_pos hvk]
          have hb1 : Below wr.heap.size wr (wr.alloc (.cells #[.int .i64 (v : Int), .int .i64 (k : Int)] 28)) := (Below.refl _ _).alloc (Nat.le_refl _) _
          have HS1 := hideIt (HS.out.up hb1)
          clear hb1
          obtain ⟨rem, hrem⟩ : ∃ rem, n - k = rem + 1 := ⟨n - k - 1, by omega⟩
          have hrem2 : n - (k + 1) = rem := by omega
          have hrem3 : n - (rem + 1) = k := by omega
          rw [hrem] at HG
          have Hrem := hideIt (And.intro hrem (And.intro hrem2 hrem3))
          clear hrem hrem2 hrem3
          by_cases hkf : (k : Int) = fr
          · have d2 : ((k : Int) == fr) = true := by simpa using hkf
            have HG2 : Hid (wkGo (wk es n f) es n (v : Int) fr (n - (k + 1)) out sk = none) := by show _ = _; rw [Hrem.out.2.1, ← wkGo_skip Hrem.out.2.2 (.inl hkf)]; exact HG.out
            clear HG HS hkf
            go_wp2
            exact ⟨⟨k + 1, m, c2, a1, out, sk, by omega, by go_num, rfl, HG2, HS1, HI⟩, by simp [intOf]; omega⟩
          · have d2 : ((k : Int) == fr) = false := by simpa using hkf
            have HH := hideIt (l05Has_any es ((v : Int), (k : Int)) ne a c (by omega) _ ((HE.out.grown (by omega) HS1.out.grown).mono (by have := HS1.out.grown.size; omega)))
            cases hb : hasB es ((v : Int), (k : Int)) with
            | false =>
              rw [hb] at HH
              have HG2 : Hid (wkGo (wk es n f) es n (v : Int) fr (n - (k + 1)) out sk = none) := by
                show _ = _
                rw [Hrem.out.2.1, ← wkGo_skip Hrem.out.2.2 (.inr (by rw [HEe.out]; exact of_decide_eq_false hb))]
                exact HG.out
              clear HG HS hb
              go_wp2_with (go_at_call 68; refine HH.out.mono ?_; rintro e w3 ⟨rfl, hb3⟩)
              exact ⟨⟨k + 1, m, c2, a1, out, sk, by omega, by go_num, rfl, HG2, hideIt (HS1.out.up hb3), HI⟩, by simp [intOf]; omega⟩
            | true =>
              rw [hb] at HH
              by_cases hks : (k : Int) ∈ sk
              · have HK := hideIt hks
                clear HG hb hks Hrem
                go_wp2_with (go_at_call 68; refine HH.out.mono ?_; rintro e w3 ⟨rfl, hb3⟩; refine Hid.out ?_)
                refine (show ∀ {p : Prop}, p → Hid p from fun h => h) ?_
                have HS3 := hideIt (HS1.out.up hb3)
                have e0 := HS3.out.arr.cell k hlt
                rw [decide_eq_true HK.out] at e0
                clear HS1 HH hb3
                go_wp2
                go_ret2
                exact ⟨a1, m, c2, rfl, HS3.out.grown⟩
              cases hp : wk es n f (k : Int) (v : Int) sk with
              | none =>
                have HP := hideIt hp
                have HK := hideIt hks
                clear HG hb hks Hrem hp
                go_wp2_with (go_at_call 68; refine HH.out.mono ?_; rintro e w3 ⟨rfl, hb3⟩; refine Hid.out ?_)
                refine (show ∀ {p : Prop}, p → Hid p from fun h => h) ?_
                have HS3 := hideIt (HS1.out.up hb3)
                have e0 := HS3.out.arr.cell k hlt
                rw [decide_eq_false HK.out] at e0
                have HR := hideIt (IH.out k (v : Int) sk w3 HP.out HI.out.fuel HI.out.nodup HI.out.rng HK.out hlt (HE.out.grown (by omega) HS3.out.grown) HS3.out.arr)
                clear HS1 HH hb3
                go_wp2_with (go_at_call 244; refine HR.out.mono ?_; rintro e w4 ⟨a4, m4, c4, rfl, hg4⟩)
                go_ret2
                exact ⟨a1, m, c2, rfl, grown_trans HS3.out.grown hg4⟩
              | some p =>
              have hgo : wkGo (wk es n f) es n (v : Int) fr (n - (k + 1)) (out ++ p.1 ++ [(v : Int)]) p.2 = none := by
                have h7 := HG.out
                rw [wkGo, Hrem.out.2.2, if_neg (by rintro (h8 | h8); exact hkf h8; exact h8 (by rw [HEe.out]; exact of_decide_eq_true hb)), if_neg hks, hp] at h7
                rw [Hrem.out.2.1]
                exact h7
              have HI2 := hideIt (HI.out.next hks hlt hp)
              have hln := HI2.out.small hn
              have hp0 := wk_head hp
              have HG2 : Hid (wkGo (wk es n f) es n (v : Int) fr (n - (k + 1)) (out ++ p.1 ++ [(v : Int)]) p.2 = none) := hgo
              have HP := hideIt hp
              have HK := hideIt hks
              clear HG HS hb hp hgo hks Hrem
              go_wp2_with (go_at_call 68; refine HH.out.mono ?_; rintro e w3 ⟨rfl, hb3⟩; refine Hid.out ?_)
              refine (show ∀ {p : Prop}, p → Hid p from fun h => h) ?_
              have HS3 := hideIt (HS1.out.up hb3)
              have e0 := HS3.out.arr.cell k hlt
              rw [decide_eq_false HK.out] at e0
              have HR := hideIt (l06Walk_any es n ne a c gs cs hn hne f k (v : Int) sk w3 p.1 p.2 HP.out (by omega) hlt (HE.out.grown (by omega) HS3.out.grown) HS3.out.arr)
              clear HS1 HH hb3
              go_wp2_with (go_at_call 244; refine HR.out.mono ?_; rintro e w4 ⟨a4, m4, c4, rfl, ho4, hg4, har4⟩; refine Hid.out ?_)
              refine (show ∀ {p : Prop}, p → Hid p from fun h => h) ?_
              have HS4 := hideIt (HS3.out.turned hgl hg4 har4)
              have I4 := Is_of_own ho4
              have hm4 : p.1.length = m4 := I4.1
              obtain ⟨g4, c4', hform, _⟩ := ho4.form (by omega)
              simp at hform
              obtain ⟨rfl, rfl⟩ := hform
              have HN4 := hideIt I4.news
              have HN4l : Hid ((ic p.1).length = m4 * 1) := by show _ = _; rw [ic_len]; omega
              have z4 := HS4.out.grown.size
              clear HS3 HR ho4 hg4 har4 e0 I4
              go_wp2_with (at_builtin; refine wpList_append_own _ rfl _ _ 44 rfl w.heap.size 3 i0 _ 1 8 Tryz.underlying44 hi hz0 hz1 hz2 rfl (by decide) _ _ _ rfl HS4.out.own ⟨g4, 0, none⟩ m4 c4 (ic p.1) rfl HN4l.out HN4.out ic_one (by unfold maxLen; omega) (by omega) z4 ?_)
              intro v5 w5 hown5 hg5 _
              obtain ⟨a5, c5, rfl, S5⟩ := HS4.out.app hgl hown5 hg5
              clear hown5 hg5 HS4 HN4 HN4l
              refine Hid.out ?_
              refine (show ∀ {p : Prop}, p → Hid p from fun h => h) ?_
              have HS5 := hideIt (S5.up ((Below.refl _ w5).alloc (Nat.le_refl _) (.cells #[.int .i64 (v : Int)] 3)))
              have z5 := HS5.out.grown.size
              simp at z5
              clear S5
              go_wp2_with (at_builtin; refine wpList_append_own _ rfl _ _ 44 rfl w.heap.size 3 i0 _ 1 8 Tryz.underlying44 hi hz0 hz1 hz2 rfl (by decide) _ _ _ rfl HS5.out.own ⟨w5.heap.size, 0, none⟩ 1 1 [.int .i64 (v : Int)] rfl rfl (newsI w5 (v : Int)) (by intro u hu; simp at hu; subst hu; rfl) (by unfold maxLen; omega) (by omega) (by simp; omega) ?_)
              intro v6 w6 hown6 hg6 _
              obtain ⟨a6, c6, rfl, S6⟩ := HS5.out.app hgl (xs := [(v : Int)]) hown6 hg6
              have HS6 := hideIt S6
              clear hown6 hg6 HS5 S6
              go_wp2
              exact ⟨⟨k + 1, _, c6, a6, _, p.2, by omega, by go_num, rfl, HG2, HS6, by rw [← hm4]; exact HI2⟩, by simp [intOf]; omega⟩
        · have d1 : decide ((v : Int) < (k : Int)) = false := decide_eq_false hvk
          have HEe : Hid (mkE (v : Int) (k : Int) = ((k : Int), (v : Int))) := by show _ = _; unfold mkE; rw [if_neg hvk]
          have hb1 : Below wr.heap.size wr (wr.alloc (.cells #[.int .i64 (k : Int), .int .i64 (v : Int)] 28)) := (Below.refl _ _).alloc (Nat.le_refl _) _
          have HS1 := hideIt (HS.out.up hb1)
          clear hb1
          obtain ⟨rem, hrem⟩ : ∃ rem, n - k = rem + 1 := ⟨n - k - 1, by omega⟩
          have hrem2 : n - (k + 1) = rem := by omega
          have hrem3 : n - (rem + 1) = k := by omega
          rw [hrem] at HG
          have Hrem := hideIt (And.intro hrem (And.intro hrem2 hrem3))
          clear hrem hrem2 hrem3
          by_cases hkf : (k : Int) = fr
          · have d2 : ((k : Int) == fr) = true := by simpa using hkf
            have HG2 : Hid (wkGo (wk es n f) es n (v : Int) fr (n - (k + 1)) out sk = none) := by show _ = _; rw [Hrem.out.2.1, ← wkGo_skip Hrem.out.2.2 (.inl hkf)]; exact HG.out
            clear HG HS hkf
            go_wp2
            exact ⟨⟨k + 1, m, c2, a1, out, sk, by omega, by go_num, rfl, HG2, HS1, HI⟩, by simp [intOf]; omega⟩
          · have d2 : ((k : Int) == fr) = false := by simpa using hkf
            have HH := hideIt (l05Has_any es ((k : Int), (v : Int)) ne a c (by omega) _ ((HE.out.grown (by omega) HS1.out.grown).mono (by have := HS1.out.grown.size; omega)))
            cases hb : hasB es ((k : Int), (v : Int)) with
            | false =>
              rw [hb] at HH
              have HG2 : Hid (wkGo (wk es n f) es n (v : Int) fr (n - (k + 1)) out sk = none) := by
                show _ = _
                rw [Hrem.out.2.1, ← wkGo_skip Hrem.out.2.2 (.inr (by rw [HEe.out]; exact of_decide_eq_false hb))]
                exact HG.out
              clear HG HS hb
              go_wp2_with (go_at_call 68; refine HH.out.mono ?_; rintro e w3 ⟨rfl, hb3⟩)
              exact ⟨⟨k + 1, m, c2, a1, out, sk, by omega, by go_num, rfl, HG2, hideIt (HS1.out.up hb3), HI⟩, by simp [intOf]; omega⟩
            | true =>
              rw [hb] at HH
              by_cases hks : (k : Int) ∈ sk
              · have HK := hideIt hks
                clear HG hb hks Hrem
                go_wp2_with (go_at_call 68; refine HH.out.mono ?_; rintro e w3 ⟨rfl, hb3⟩; refine Hid.out ?_)
                refine (show ∀ {p : Prop}, p → Hid p from fun h => h) ?_
                have HS3 := hideIt (HS1.out.up hb3)
                have e0 := HS3.out.arr.cell k hlt
                rw [decide_eq_true HK.out] at e0
                clear HS1 HH hb3
                go_wp2
                go_ret2
                exact ⟨a1, m, c2, rfl, HS3.out.grown⟩
              cases hp : wk es n f (k : Int) (v : Int) sk with
              | none =>
                have HP := hideIt hp
                have HK := hideIt hks
                clear HG hb hks Hrem hp
                go_wp2_with (go_at_call 68; refine HH.out.mono ?_; rintro e w3 ⟨rfl, hb3⟩; refine Hid.out ?_)
                refine (show ∀ {p : Prop}, p → Hid p from fun h => h) ?_
                have HS3 := hideIt (HS1.out.up hb3)
                have e0 := HS3.out.arr.cell k hlt
                rw [decide_eq_false HK.out] at e0
                have HR := hideIt (IH.out k (v : Int) sk w3 HP.out HI.out.fuel HI.out.nodup HI.out.rng HK.out hlt (HE.out.grown (by omega) HS3.out.grown) HS3.out.arr)
                clear HS1 HH hb3
                go_wp2_with (go_at_call 244; refine HR.out.mono ?_; rintro e w4 ⟨a4, m4, c4, rfl, hg4⟩)
                go_ret2
                exact ⟨a1, m, c2, rfl, grown_trans HS3.out.grown hg4⟩
              | some p =>
              have hgo : wkGo (wk es n f) es n (v : Int) fr (n - (k + 1)) (out ++ p.1 ++ [(v : Int)]) p.2 = none := by
                have h7 := HG.out
                rw [wkGo, Hrem.out.2.2, if_neg (by rintro (h8 | h8); exact hkf h8; exact h8 (by rw [HEe.out]; exact of_decide_eq_true hb)), if_neg hks, hp] at h7
                rw [Hrem.out.2.1]
                exact h7
              have HI2 := hideIt (HI.out.next hks hlt hp)
              have hln := HI2.out.small hn
              have hp0 := wk_head hp
              have HG2 : Hid (wkGo (wk es n f) es n (v : Int) fr (n - (k + 1)) (out ++ p.1 ++ [(v : Int)]) p.2 = none) := hgo
              have HP := hideIt hp
              have HK := hideIt hks
              clear HG HS hb hp hgo hks Hrem
              go_wp2_with (go_at_call 68; refine HH.out.mono ?_; rintro e w3 ⟨rfl, hb3⟩; refine Hid.out ?_)
              refine (show ∀ {p : Prop}, p → Hid p from fun h => h) ?_
              have HS3 := hideIt (HS1.out.up hb3)
              have e0 := HS3.out.arr.cell k hlt
              rw [decide_eq_false HK.out] at e0
              have HR := hideIt (l06Walk_any es n ne a c gs cs hn hne f k (v : Int) sk w3 p.1 p.2 HP.out (by omega) hlt (HE.out.grown (by omega) HS3.out.grown) HS3.out.arr)
              clear HS1 HH hb3
              go_wp2_with (go_at_call 244; refine HR.out.mono ?_; rintro e w4 ⟨a4, m4, c4, rfl, ho4, hg4, har4⟩; refine Hid.out ?_)
              refine (show ∀ {p : Prop}, p → Hid p from fun h => h) ?_
              have HS4 := hideIt (HS3.out.turned hgl hg4 har4)
              have I4 := Is_of_own ho4
              have hm4 : p.1.length = m4 := I4.1
              obtain ⟨g4, c4', hform, _⟩ := ho4.form (by omega)
              simp at hform
              obtain ⟨rfl, rfl⟩ := hform
              have HN4 := hideIt I4.news
              have HN4l : Hid ((ic p.1).length = m4 * 1) := by show _ = _; rw [ic_len]; omega
              have z4 := HS4.out.grown.size
              clear HS3 HR ho4 hg4 har4 e0 I4
              go_wp2_with (at_builtin; refine wpList_append_own _ rfl _ _ 44 rfl w.heap.size 3 i0 _ 1 8 Tryz.underlying44 hi hz0 hz1 hz2 rfl (by decide) _ _ _ rfl HS4.out.own ⟨g4, 0, none⟩ m4 c4 (ic p.1) rfl HN4l.out HN4.out ic_one (by unfold maxLen; omega) (by omega) z4 ?_)
              intro v5 w5 hown5 hg5 _
              obtain ⟨a5, c5, rfl, S5⟩ := HS4.out.app hgl hown5 hg5
              clear hown5 hg5 HS4 HN4 HN4l
              refine Hid.out ?_
              refine (show ∀ {p : Prop}, p → Hid p from fun h => h) ?_
              have HS5 := hideIt (S5.up ((Below.refl _ w5).alloc (Nat.le_refl _) (.cells #[.int .i64 (v : Int)] 3)))
              have z5 := HS5.out.grown.size
              simp at z5
              clear S5
              go_wp2_with (at_builtin; refine wpList_append_own _ rfl _ _ 44 rfl w.heap.size 3 i0 _ 1 8 Tryz.underlying44 hi hz0 hz1 hz2 rfl (by decide) _ _ _ rfl HS5.out.own ⟨w5.heap.size, 0, none⟩ 1 1 [.int .i64 (v : Int)] rfl rfl (newsI w5 (v : Int)) (by intro u hu; simp at hu; subst hu; rfl) (by unfold maxLen; omega) (by omega) (by simp; omega) ?_)
              intro v6 w6 hown6 hg6 _
              obtain ⟨a6, c6, rfl, S6⟩ := HS5.out.app hgl (xs := [(v : Int)]) hown6 hg6
              have HS6 := hideIt S6
              clear hown6 hg6 HS5 S6
              go_wp2
              exact ⟨⟨k + 1, _, c6, a6, _, p.2, by omega, by go_num, rfl, HG2, HS6, by rw [← hm4]; exact HI2⟩, by simp [intOf]; omega⟩
      · obtain rfl : k = n := by omega
        have := HG.out
        rw [Nat.sub_self, wkGo] at this
        cases this
end Go.Proofs.YtkkplppcgnikoaaGreat
namespace Go.Proofs.YtkkplppcgnikoaaGreat
open Go.RowKit

set_option maxRecDepth 100000 in
set_option maxHeartbeats 4000000 in
theorem sTourOf_ring (es : List EdgeV) (n ne r : Nat) (a : Option Addr) (c : Nat) (hn0 : 1 ≤ n) (hn : n ≤ 12) (hne : ne ≤ 1000) (hr : r < n) (hok : ∀ e ∈ es, eB (n : Int) e = true) (hwk : wk es n n (r : Int) (-1) [] = none) (w : World) (h : Es w w.heap.size a ne es) :
    Calls Tryz.prog 172 #[.int .i64 (n : Int), .slice a ne c, .int .i64 (r : Int)] w fun e w' => ∃ a' c', e = .returned (.tuple #[.slice a' 0 c', .bool false]) ∧ Below w.heap.size w w' := by
  obtain ⟨i0, hi, hz0, hz1, hz2⟩ := info_parts info4b
  have HM : Hid (∀ u : World, (Instr.makeSlice 274 (.int .i64 (n : Int)) (.int .i64 (n : Int))).run Tryz.prog u =
      .ok (.slice (some ⟨u.heap.size, 0, none⟩) n n) (u.alloc (.cells (madeCells #[.bool false] n) 4))) := fun u => by
    have h := run_make (P := Tryz.prog) u 274 4 i0 _ Tryz.underlying274 hi hz0 .i64 .i64 (n : Int) (n : Int) (by omega) (by omega) (by rw [hz2]; omega) (by omega)
    rw [Int.toNat_natCast] at h
    simpa [hz1, Value.cells] using h
  have HE := hideIt h
  have HOk := hideIt hok
  have hlen := h.1
  have HI1 := l01In_any (n : Int) 1 12 w
  rw [decide_eq_true (by omega)] at HI1
  have HI1 := hideIt HI1
  have HI2 := l01In_any (r : Int) 0 ((n : Int) - 1) w
  rw [decide_eq_true (by omega)] at HI2
  have HI2 := hideIt HI2
  have HWk : Hid (∀ u, Below w.heap.size w u → Calls Tryz.prog 244 #[.int .i64 (n : Int), .slice a ne c, .int .i64 (r : Int), .int .i64 (-1), .slice (some ⟨u.heap.size, 0, none⟩) n n] (u.alloc (.cells (madeCells #[.bool false] n) 4)) fun e w' => ∃ a' m c', e = .returned (.tuple #[.slice a' m c', .bool true]) ∧ Below w.heap.size w w') := fun u hu => by
    have hb : Below u.heap.size u (u.alloc (.cells (madeCells #[.bool false] n) 4)) := (Below.refl _ _).alloc (Nat.le_refl _) _
    refine (l06Walk_ring es n ne a c u.heap.size n hn hne n r (-1) [] _ hwk (by simp) (by simp) (by simp) (by simp) hr ((HE.out.up hu).below hb (Nat.le_refl _)) (arr_made u n)).mono ?_
    rintro e w' ⟨a', m, c', he, hg⟩
    exact ⟨a', m, c', he, (hu.trans (hb.mono hu.size)).grown hg (by have := hu.size; simp; omega) (fun j e => by cases e; exact hu.size)⟩
  clear h hok hwk
  go_enter Tryz.func172, Tryz.ntmps172
  go_wp2_with (first | (go_at_call 81; refine HI1.out.mono ?_; clear HI1; rintro e w1 ⟨rfl, hw⟩; have hw' := hw.symm; subst hw'; clear hw) | (go_at_call 81; refine HI2.out.mono ?_; rintro e w1 ⟨rfl, hw⟩; have hw' := hw.symm; subst hw'; clear hw))
  go_loopw [8] (fun i wr => ∃ (k : Nat), k ≤ ne ∧ i = .int .i64 (k : Int) ∧ Good w wr) (fun i _ => ne - (intOf i).toNat)
  case atStart => exact ⟨0, by omega, rfl, Good.refl _⟩
  case round =>
    obtain ⟨k, hk, rfl, hg⟩ := hrel
    by_cases hlt : k < ne
    · rcases HE.out.2 with hz | ⟨b, off, rfl, hbl, hc⟩
      · omega
      · obtain ⟨f, hf⟩ : ∃ f, es[k]? = some f := ⟨es[k]'(by omega), List.getElem?_eq_getElem (by omega)⟩
        have e0 : wr.cell? ⟨b, off + k * 2, none⟩ = some (.int .i64 f.1) := by rw [Below.cell hg hbl]; exact (hc k f hf).1
        have e1 : wr.cell? ⟨b, off + k * 2 + 1, none⟩ = some (.int .i64 f.2) := by rw [Below.cell hg hbl]; exact (hc k f hf).2
        have b1 : (0 : Int) ≤ (k : Int) := by omega
        have b2 : (k : Int) < (ne : Int) := by omega
        have HS := sEdgeOk_any (n : Int) f wr
        rw [HOk.out f (List.mem_of_getElem? hf)] at HS
        have HS := hideIt HS
        clear hc hf
        go_wp2_with (go_at_call 77; refine HS.out.mono ?_; rintro e w1 ⟨rfl, hb1⟩)
        exact ⟨⟨k + 1, by omega, by go_num, hg.up hb1⟩, by simp [intOf]; omega⟩
    · have HW := hideIt (HWk.out wr hg)
      have hmk := HM.out wr
      clear HWk
      go_wp2_with (go_at_call 244; refine HW.out.mono ?_; rintro e w4 ⟨a4, m4, c4, rfl, hb4⟩)
      go_ret2
      exact ⟨_, _, rfl, hb4.alloc hb4.size _⟩
end Go.Proofs.YtkkplppcgnikoaaGreat
