/- The specification's walk along all edges. -/
import Derived.Test.YtcppbgkocipnlaaWk
import Derived.Test.YtcppbgkocipnlaaSRer
namespace Go.Proofs.Ytcppbgkocipnlaa
open Go.RowKit

/-- the table of what was seen -/
structure Arr (u : World) (gs n : Nat) (seen : List Int) : Prop where
  cell : ∀ j : Nat, j < n → u.cell? ⟨gs, j, none⟩ = some (.bool (decide ((j : Int) ∈ seen)))
  frz : ∀ j : Nat, u.frozen? ⟨gs, j, none⟩ = false
  lt : gs < u.heap.size
theorem Arr.up {u v : World} {gs n : Nat} {seen : List Int} (h : Arr u gs n seen) (hb : Below u.heap.size u v) : Arr v gs n seen :=
  ⟨fun j hj => by rw [hb.cell (p := ⟨gs, j, none⟩) h.lt]; exact h.cell j hj, fun j => by rw [hb.frozen (p := ⟨gs, j, none⟩) h.lt]; exact h.frz j, Nat.lt_of_lt_of_le h.lt hb.size⟩
theorem Arr.grown {u v : World} {gs n X : Nat} {seen : List Int} (h : Arr u gs n seen) (hg : u.grownBy v (some X)) (hX : gs ≠ X) : Arr v gs n seen := by
  have hb : v.heap[gs]? = u.heap[gs]? := hg.block gs h.lt (by simp; exact fun e => hX e)
  exact ⟨fun j hj => by rw [World.cell?_of_block (w := u) (a := ⟨gs, j, none⟩) hb]; exact h.cell j hj, fun j => by rw [World.frozen?_of_block (w := u) (a := ⟨gs, j, none⟩) hb]; exact h.frz j, Nat.lt_of_lt_of_le h.lt hg.size⟩
theorem Arr.put {u : World} {gs n : Nat} {seen : List Int} (h : Arr u gs n seen) (x : Nat) (hx : x < n) : Arr (u.setCell ⟨gs, x, none⟩ (.bool true)) gs n ((x : Int) :: seen) := by
  refine ⟨fun j hj => ?_, fun j => ?_, by simp [World.setCell]; exact h.lt⟩
  · by_cases hjx : j = x
    · subst hjx
      rw [World.cell?_setCell_same u ⟨gs, j, none⟩ _ (h.cell j hj)]
      simp
    · rw [World.cell?_setCell_other]
      · rw [h.cell j hj]
        have : ¬ ((j : Int) = (x : Int)) := by omega
        simp [this]
      · exact fun e => hjx (by simpa using e.symm)
  · rw [World.frozen?_setCell]; exact h.frz j
/-- the walk under way: the list in the making, and the table -/
structure WSt (w : World) (gs n : Nat) (a : Option Addr) (m c : Nat) (out seen : List Int) (u : World) : Prop where
  own : u.ownsRow w.heap.size 3 1 (.slice a m c) m (ic out)
  arr : Arr u gs n seen
  grown : w.grownBy u (some gs)
theorem Es.grown {w u : World} {gs : Nat} {a : Option Addr} {n : Nat} {fs : List EdgeV} (h : Es w gs a n fs) (hgs : gs ≤ w.heap.size) (hg : w.grownBy u (some gs)) : Es u gs a n fs := by
  refine ⟨h.1, h.2.imp id ?_⟩
  rintro ⟨b, off, h1, h2, h3⟩
  have hb : u.heap[b]? = w.heap[b]? := hg.block b (by omega) (by simp; omega)
  exact ⟨b, off, h1, h2, fun j x hx => by
    have := h3 j x hx
    rw [World.cell?_of_block (w := w) (a := ⟨b, _, none⟩) hb, World.cell?_of_block (w := w) (a := ⟨b, _, none⟩) hb]
    exact this⟩
theorem wkGo_len {rec : Int → Int → List Int → Option (List Int × List Int)} {es : List EdgeV} {n : Nat} {v fr : Int} {rem : Nat} {out seen t sn : List Int} (h : wkGo rec es n v fr rem out seen = some (t, sn)) : out.length ≤ t.length := by
  induction rem generalizing out seen with
  | zero => simp [wkGo] at h; rw [h.1]; exact Nat.le_refl _
  | succ rem ih =>
    rw [wkGo] at h
    split at h
    · exact ih h
    · split at h
      · simp at h
      · cases hr : rec ((n - (rem + 1) : Nat) : Int) v seen with
        | none => rw [hr] at h; simp at h
        | some p =>
          rw [hr] at h
          have := ih h
          simp at this
          omega
theorem grown_up {w u v : World} {G : Nat} (h : w.grownBy u (some G)) (hb : Below w.heap.size u v) : w.grownBy v (some G) :=
  ⟨hb.os.trans h.os, hb.tape.trans h.tape, hb.output.trans h.output, Nat.le_trans h.size hb.size, fun k hk hr => (hb.block k hk).trans (h.block k hk hr)⟩
theorem WSt.up {w : World} {gs n : Nat} {a : Option Addr} {m c : Nat} {out seen : List Int} {u v : World} (h : WSt w gs n a m c out seen u) (hb : Below u.heap.size u v) : WSt w gs n a m c out seen v :=
  ⟨own_up h.own hb, h.arr.up hb, grown_up h.grown (hb.mono h.grown.size)⟩
theorem WSt.turned {w : World} {gs n : Nat} {a : Option Addr} {m c : Nat} {out seen sn : List Int} {u v : World} (h : WSt w gs n a m c out seen u) (hgs : gs < w.heap.size) (hg : u.grownBy v (some gs)) (ha : Arr v gs n sn) : WSt w gs n a m c out sn v :=
  ⟨World.ownsRow.kept h.own hg (.inr (fun e => by have := (h.own.lt gs e).1; omega)), ha, grown_trans h.grown hg⟩
theorem WSt.app {w : World} {gs n : Nat} {a : Option Addr} {m c : Nat} {out seen : List Int} {u : World} (h : WSt w gs n a m c out seen u) (hgs : gs < w.heap.size) {xs : List Int} {m3 : Nat} {v : Value} {u' : World}
    (ho : u'.ownsRow w.heap.size 3 1 v (m + m3) (ic out ++ ic xs)) (hg : u.grownBy u' (Value.slice a m c).ownBlock) : ∃ a' c', v = .slice a' (m + m3) c' ∧ WSt w gs n a' (m + m3) c' (out ++ xs) seen u' := by
  obtain ⟨a', c', rfl⟩ := own_form ho
  rw [← ic_append] at ho
  have hb : Below w.heap.size u u' := (Below.refl _ u).grown hg h.grown.size (fun j hj => (h.own.lt j hj).1)
  have hne : (Value.slice a m c).ownBlock ≠ some gs := fun e => by have := (h.own.lt gs e).1; omega
  have hbl : u'.heap[gs]? = u.heap[gs]? := hg.block gs h.arr.lt (fun e => hne e.symm)
  exact ⟨a', c', rfl, ho, ⟨fun j hj => by rw [World.cell?_of_block (w := u) (a := ⟨gs, j, none⟩) hbl]; exact h.arr.cell j hj, fun j => by rw [World.frozen?_of_block (w := u) (a := ⟨gs, j, none⟩) hbl]; exact h.arr.frz j, Nat.lt_of_lt_of_le h.arr.lt hg.size⟩, grown_up h.grown hb⟩
theorem WSt.len {w : World} {gs n : Nat} {a : Option Addr} {m c : Nat} {out seen : List Int} {u : World} (h : WSt w gs n a m c out seen u) : out.length = m := by have := h.own.1; rw [ic_len] at this; omega
theorem wk_head {es : List EdgeV} {n f : Nat} {v fr : Int} {seen t sn : List Int} (h : wk es n f v fr seen = some (t, sn)) : 0 < t.length := by
  cases f with
  | zero => simp [wk] at h
  | succ f => rw [wk] at h; have := wkGo_len h; simp at this; omega
set_option maxRecDepth 100000 in
set_option maxHeartbeats 8000000 in
theorem l06Walk_any (es : List EdgeV) (n ne : Nat) (a : Option Addr) (c gs cs : Nat) (hn : n ≤ 12) (hne : ne ≤ 1000) (f : Nat) : ∀ (v : Nat) (fr : Int) (seen : List Int) (w : World) (t sn : List Int), wk es n f (v : Int) fr seen = some (t, sn) → t.length ≤ 1000 → v < n → Es w gs a ne es → Arr w gs n seen →
    Calls Try.prog 50 #[.int .i64 (n : Int), .slice a ne c, .int .i64 (v : Int), .int .i64 fr, .slice (some ⟨gs, 0, none⟩) n cs] w fun e w' => ∃ a' m c', e = .returned (.tuple #[.slice a' m c', .bool false]) ∧ w'.ownsRow w.heap.size 3 1 (.slice a' m c') m (ic t) ∧ w.grownBy w' (some gs) ∧ Arr w' gs n sn := by
  obtain ⟨i0, hi, hz0, hz1, hz2⟩ := info_parts info3i
  induction f with
  | zero => intro v fr seen w t sn h; simp [wk] at h
  | succ f ih =>
    intro v fr seen w t sn hwk htl hvn hes harr
    have IH := hideIt ih
    clear ih
    rw [wk] at hwk
    have HW := hideIt hwk
    clear hwk
    have HE := hideIt hes
    have hgl := harr.lt
    have b1 : (0 : Int) ≤ (v : Int) := by omega
    have b2 : (v : Int) < (n : Int) := by omega
    have c0 := harr.cell v hvn
    have c1 := harr.frz v
    have H0 : Hid (WSt w gs n (some ⟨w.heap.size, 0, none⟩) 1 1 [(v : Int)] ((v : Int) :: seen) ((w.setCell ⟨gs, v, none⟩ (.bool true)).alloc (.cells #[.int .i64 (v : Int)] 3))) := by
      have hsz : (w.setCell ⟨gs, v, none⟩ (.bool true)).heap.size = w.heap.size := by simp [World.setCell]
      have o1 := World.ownsRow_lit (base := w.heap.size) (e := 3) (size := 1) (w.setCell ⟨gs, v, none⟩ (.bool true)) #[.int .i64 (v : Int)] 1 (by rw [hsz]; exact Nat.le_refl _) (by unfold maxLen; omega) (by simp)
      rw [hsz] at o1
      have hb := (Below.refl _ (w.setCell ⟨gs, v, none⟩ (.bool true))).alloc (Nat.le_refl _) (.cells #[.int .i64 (v : Int)] 3)
      exact ⟨by simpa [ic] using o1, (harr.put v hvn).up hb, grown_trans (grownSet _ gs v _) (grown_of_below hb _)⟩
    clear hes harr
    go_enter Try.func50, Try.ntmps50
    go_wp2
    go_loopw [12, 13] (fun r i wr => ∃ (k m c1 : Nat) (a1 : Option Addr) (out sk : List Int), k ≤ n ∧ i = .int .i64 (k : Int) ∧ r = .slice a1 m c1 ∧ Hid (wkGo (wk es n f) es n (v : Int) fr (n - k) out sk = some (t, sn)) ∧ Hid (WSt w gs n a1 m c1 out sk wr)) (fun _ i _ => n - (intOf i).toNat)
    case atStart => exact ⟨0, 1, 1, _, [(v : Int)], (v : Int) :: seen, by omega, rfl, rfl, HW, H0⟩
    case round =>
      obtain ⟨k, m, c2, a1, out, sk, hk, rfl, rfl, HG, HS⟩ := hrel
      clear H0 HW c0 c1
      have hml := HS.out.len
      by_cases hlt : k < n
      · have b3 : (0 : Int) ≤ (k : Int) := by omega
        have b4 : (k : Int) < (n : Int) := by omega
        by_cases hvk : (v : Int) < (k : Int)
        · have d1 : decide ((v : Int) < (k : Int)) = true := decide_eq_true hvk
          have HEe : Hid (mkE (v : Int) (k : Int) = ((v : Int), (k : Int))) := by show _ = _; unfold mkE; rw [if_pos hvk]
          have hb1 : Below wr.heap.size wr (wr.alloc (.cells #[.int .i64 (v : Int), .int .i64 (k : Int)] 40)) := (Below.refl _ _).alloc (Nat.le_refl _) _
          have HS1 := hideIt (HS.out.up hb1)
          clear hb1
          obtain ⟨rem, hrem⟩ : ∃ rem, n - k = rem + 1 := ⟨n - k - 1, by omega⟩
          have hrem2 : n - (k + 1) = rem := by omega
          have hrem3 : n - (rem + 1) = k := by omega
          rw [hrem] at HG
          have Hrem := hideIt (And.intro hrem (And.intro hrem2 hrem3))
          clear hrem hrem2 hrem3
          by_cases hkf : (k : Int) = fr
          · have d2 : ((k : Int) == fr) = true := by simpa using hkf
            have HG2 : Hid (wkGo (wk es n f) es n (v : Int) fr (n - (k + 1)) out sk = some (t, sn)) := by show _ = _; rw [Hrem.out.2.1, ← wkGo_skip Hrem.out.2.2 (.inl hkf)]; exact HG.out
            clear HG HS hkf
            go_wp2
            exact ⟨⟨k + 1, m, c2, a1, out, sk, by omega, by go_num, rfl, HG2, HS1⟩, by simp [intOf]; omega⟩
          · have d2 : ((k : Int) == fr) = false := by simpa using hkf
            have HH := hideIt (l05Has_any es ((v : Int), (k : Int)) ne a c (by omega) _ ((HE.out.grown (by omega) HS1.out.grown).mono (by have := HS1.out.grown.size; omega)))
            cases hb : hasB es ((v : Int), (k : Int)) with
            | false =>
              rw [hb] at HH
              have HG2 : Hid (wkGo (wk es n f) es n (v : Int) fr (n - (k + 1)) out sk = some (t, sn)) := by
                show _ = _
                rw [Hrem.out.2.1, ← wkGo_skip Hrem.out.2.2 (.inr (by rw [HEe.out]; exact of_decide_eq_false hb))]
                exact HG.out
              clear HG HS hb
              go_wp2_with (go_at_call 74; refine HH.out.mono ?_; rintro e w3 ⟨rfl, hb3⟩)
              exact ⟨⟨k + 1, m, c2, a1, out, sk, by omega, by go_num, rfl, HG2, hideIt (HS1.out.up hb3)⟩, by simp [intOf]; omega⟩
            | true =>
              rw [hb] at HH
              obtain ⟨hks, p, hp, hgo⟩ := wkGo_go Hrem.out.2.2 hkf (by rw [HEe.out]; exact of_decide_eq_true hb) HG.out
              have hln := wkGo_len hgo
              simp at hln
              have hp0 := wk_head hp
              have HG2 : Hid (wkGo (wk es n f) es n (v : Int) fr (n - (k + 1)) (out ++ p.1 ++ [(v : Int)]) p.2 = some (t, sn)) := by show _ = _; rw [Hrem.out.2.1]; exact hgo
              have HP := hideIt hp
              have HK := hideIt hks
              clear HG HS hb hp hgo hks Hrem
              go_wp2_with (go_at_call 74; refine HH.out.mono ?_; rintro e w3 ⟨rfl, hb3⟩; refine Hid.out ?_)
              refine (show ∀ {p : Prop}, p → Hid p from fun h => h) ?_
              have HS3 := hideIt (HS1.out.up hb3)
              have e0 := HS3.out.arr.cell k hlt
              rw [decide_eq_false HK.out] at e0
              have HR := hideIt (IH.out k (v : Int) sk w3 p.1 p.2 HP.out (by omega) hlt (HE.out.grown (by omega) HS3.out.grown) HS3.out.arr)
              clear HS1 HH hb3
              go_wp2_with (go_at_call 50; refine HR.out.mono ?_; rintro e w4 ⟨a4, m4, c4, rfl, ho4, hg4, har4⟩; refine Hid.out ?_)
              refine (show ∀ {p : Prop}, p → Hid p from fun h => h) ?_
              have HS4 := hideIt (HS3.out.turned hgl hg4 har4)
              have I4 := Is_of_own ho4
              have hm4 : p.1.length = m4 := I4.1
              obtain ⟨g4, c4', hform, _⟩ := ho4.form (by omega)
              simp at hform
              obtain ⟨rfl, rfl⟩ := hform
              have HN4 := hideIt I4.news
              have HN4l : Hid ((ic p.1).length = m4 * 1) := by show _ = _; rw [ic_len]; omega
              have z4 := HS4.out.grown.size
              clear HS3 HR ho4 hg4 har4 e0 I4
              go_wp2_with (at_builtin; refine wpList_append_own _ rfl _ _ 24 rfl w.heap.size 3 i0 _ 1 8 Try.underlying24 hi hz0 hz1 hz2 rfl (by decide) _ _ _ rfl HS4.out.own ⟨g4, 0, none⟩ m4 c4 (ic p.1) rfl HN4l.out HN4.out ic_one (by unfold maxLen; omega) (by omega) z4 ?_)
              intro v5 w5 hown5 hg5 _
              obtain ⟨a5, c5, rfl, S5⟩ := HS4.out.app hgl hown5 hg5
              clear hown5 hg5 HS4 HN4 HN4l
              refine Hid.out ?_
              refine (show ∀ {p : Prop}, p → Hid p from fun h => h) ?_
              have HS5 := hideIt (S5.up ((Below.refl _ w5).alloc (Nat.le_refl _) (.cells #[.int .i64 (v : Int)] 3)))
              have z5 := HS5.out.grown.size
              simp at z5
              clear S5
              go_wp2_with (at_builtin; refine wpList_append_own _ rfl _ _ 24 rfl w.heap.size 3 i0 _ 1 8 Try.underlying24 hi hz0 hz1 hz2 rfl (by decide) _ _ _ rfl HS5.out.own ⟨w5.heap.size, 0, none⟩ 1 1 [.int .i64 (v : Int)] rfl rfl (newsI w5 (v : Int)) (by intro u hu; simp at hu; subst hu; rfl) (by unfold maxLen; omega) (by omega) (by simp; omega) ?_)
              intro v6 w6 hown6 hg6 _
              obtain ⟨a6, c6, rfl, S6⟩ := HS5.out.app hgl (xs := [(v : Int)]) hown6 hg6
              have HS6 := hideIt S6
              clear hown6 hg6 HS5 S6
              go_wp2
              exact ⟨⟨k + 1, _, c6, a6, _, p.2, by omega, by go_num, rfl, HG2, HS6⟩, by simp [intOf]; omega⟩
        · have d1 : decide ((v : Int) < (k : Int)) = false := decide_eq_false hvk
          have HEe : Hid (mkE (v : Int) (k : Int) = ((k : Int), (v : Int))) := by show _ = _; unfold mkE; rw [if_neg hvk]
          have hb1 : Below wr.heap.size wr (wr.alloc (.cells #[.int .i64 (k : Int), .int .i64 (v : Int)] 40)) := (Below.refl _ _).alloc (Nat.le_refl _) _
          have HS1 := hideIt (HS.out.up hb1)
          clear hb1
          obtain ⟨rem, hrem⟩ : ∃ rem, n - k = rem + 1 := ⟨n - k - 1, by omega⟩
          have hrem2 : n - (k + 1) = rem := by omega
          have hrem3 : n - (rem + 1) = k := by omega
          rw [hrem] at HG
          have Hrem := hideIt (And.intro hrem (And.intro hrem2 hrem3))
          clear hrem hrem2 hrem3
          by_cases hkf : (k : Int) = fr
          · have d2 : ((k : Int) == fr) = true := by simpa using hkf
            have HG2 : Hid (wkGo (wk es n f) es n (v : Int) fr (n - (k + 1)) out sk = some (t, sn)) := by show _ = _; rw [Hrem.out.2.1, ← wkGo_skip Hrem.out.2.2 (.inl hkf)]; exact HG.out
            clear HG HS hkf
            go_wp2
            exact ⟨⟨k + 1, m, c2, a1, out, sk, by omega, by go_num, rfl, HG2, HS1⟩, by simp [intOf]; omega⟩
          · have d2 : ((k : Int) == fr) = false := by simpa using hkf
            have HH := hideIt (l05Has_any es ((k : Int), (v : Int)) ne a c (by omega) _ ((HE.out.grown (by omega) HS1.out.grown).mono (by have := HS1.out.grown.size; omega)))
            cases hb : hasB es ((k : Int), (v : Int)) with
            | false =>
              rw [hb] at HH
              have HG2 : Hid (wkGo (wk es n f) es n (v : Int) fr (n - (k + 1)) out sk = some (t, sn)) := by
                show _ = _
                rw [Hrem.out.2.1, ← wkGo_skip Hrem.out.2.2 (.inr (by rw [HEe.out]; exact of_decide_eq_false hb))]
                exact HG.out
              clear HG HS hb
              go_wp2_with (go_at_call 74; refine HH.out.mono ?_; rintro e w3 ⟨rfl, hb3⟩)
              exact ⟨⟨k + 1, m, c2, a1, out, sk, by omega, by go_num, rfl, HG2, hideIt (HS1.out.up hb3)⟩, by simp [intOf]; omega⟩
            | true =>
              rw [hb] at HH
              obtain ⟨hks, p, hp, hgo⟩ := wkGo_go Hrem.out.2.2 hkf (by rw [HEe.out]; exact of_decide_eq_true hb) HG.out
              have hln := wkGo_len hgo
              simp at hln
              have hp0 := wk_head hp
              have HG2 : Hid (wkGo (wk es n f) es n (v : Int) fr (n - (k + 1)) (out ++ p.1 ++ [(v : Int)]) p.2 = some (t, sn)) := by show _ = _; rw [Hrem.out.2.1]; exact hgo
              have HP := hideIt hp
              have HK := hideIt hks
              clear HG HS hb hp hgo hks Hrem
              go_wp2_with (go_at_call 74; refine HH.out.mono ?_; rintro e w3 ⟨rfl, hb3⟩; refine Hid.out ?_)
              refine (show ∀ {p : Prop}, p → Hid p from fun h => h) ?_
              have HS3 := hideIt (HS1.out.up hb3)
              have e0 := HS3.out.arr.cell k hlt
              rw [decide_eq_false HK.out] at e0
              have HR := hideIt (IH.out k (v : Int) sk w3 p.1 p.2 HP.out (by omega) hlt (HE.out.grown (by omega) HS3.out.grown) HS3.out.arr)
              clear HS1 HH hb3
              go_wp2_with (go_at_call 50; refine HR.out.mono ?_; rintro e w4 ⟨a4, m4, c4, rfl, ho4, hg4, har4⟩; refine Hid.out ?_)
              refine (show ∀ {p : Prop}, p → Hid p from fun h => h) ?_
              have HS4 := hideIt (HS3.out.turned hgl hg4 har4)
              have I4 := Is_of_own ho4
              have hm4 : p.1.length = m4 := I4.1
              obtain ⟨g4, c4', hform, _⟩ := ho4.form (by omega)
              simp at hform
              obtain ⟨rfl, rfl⟩ := hform
              have HN4 := hideIt I4.news
              have HN4l : Hid ((ic p.1).length = m4 * 1) := by show _ = _; rw [ic_len]; omega
              have z4 := HS4.out.grown.size
              clear HS3 HR ho4 hg4 har4 e0 I4
              go_wp2_with (at_builtin; refine wpList_append_own _ rfl _ _ 24 rfl w.heap.size 3 i0 _ 1 8 Try.underlying24 hi hz0 hz1 hz2 rfl (by decide) _ _ _ rfl HS4.out.own ⟨g4, 0, none⟩ m4 c4 (ic p.1) rfl HN4l.out HN4.out ic_one (by unfold maxLen; omega) (by omega) z4 ?_)
              intro v5 w5 hown5 hg5 _
              obtain ⟨a5, c5, rfl, S5⟩ := HS4.out.app hgl hown5 hg5
              clear hown5 hg5 HS4 HN4 HN4l
              refine Hid.out ?_
              refine (show ∀ {p : Prop}, p → Hid p from fun h => h) ?_
              have HS5 := hideIt (S5.up ((Below.refl _ w5).alloc (Nat.le_refl _) (.cells #[.int .i64 (v : Int)] 3)))
              have z5 := HS5.out.grown.size
              simp at z5
              clear S5
              go_wp2_with (at_builtin; refine wpList_append_own _ rfl _ _ 24 rfl w.heap.size 3 i0 _ 1 8 Try.underlying24 hi hz0 hz1 hz2 rfl (by decide) _ _ _ rfl HS5.out.own ⟨w5.heap.size, 0, none⟩ 1 1 [.int .i64 (v : Int)] rfl rfl (newsI w5 (v : Int)) (by intro u hu; simp at hu; subst hu; rfl) (by unfold maxLen; omega) (by omega) (by simp; omega) ?_)
              intro v6 w6 hown6 hg6 _
              obtain ⟨a6, c6, rfl, S6⟩ := HS5.out.app hgl (xs := [(v : Int)]) hown6 hg6
              have HS6 := hideIt S6
              clear hown6 hg6 HS5 S6
              go_wp2
              exact ⟨⟨k + 1, _, c6, a6, _, p.2, by omega, by go_num, rfl, HG2, HS6⟩, by simp [intOf]; omega⟩
      · obtain rfl : k = n := by omega
        have HT : Hid (out = t ∧ sk = sn) := by
          show _ ∧ _
          have := HG.out
          rw [Nat.sub_self, wkGo] at this
          simpa using this
        clear HG
        go_wp2
        go_ret2
        exact ⟨a1, m, c2, rfl, by rw [← HT.out.1]; exact HS.out.own, HS.out.grown, by rw [← HT.out.2]; exact HS.out.arr⟩
end Go.Proofs.Ytcppbgkocipnlaa
