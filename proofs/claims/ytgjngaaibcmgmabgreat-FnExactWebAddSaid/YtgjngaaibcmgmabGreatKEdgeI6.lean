/- The specification's walk along all edges. The specification's TourOf, where there is no ring. What hangs together by edges; parents of members: pure. The library's comparisons; the program's compareEdges. The program's members: least and join. The program's EdgeOk. -/
import Derived.Test.YtgjngaaibcmgmabGreatKFind6
import Derived.Test.YtgjngaaibcmgmabGreatKSRer
import Derived.Test.YtgjngaaibcmgmabGreatKBx7
namespace Go.Proofs.YtgjngaaibcmgmabGreat
open Go.RowKit

/-- the table of what was seen -/
structure Arr (u : World) (gs n : Nat) (seen : List Int) : Prop where
  cell : ∀ j : Nat, j < n → u.cell? ⟨gs, j, none⟩ = some (.bool (decide ((j : Int) ∈ seen)))
  frz : ∀ j : Nat, u.frozen? ⟨gs, j, none⟩ = false
  lt : gs < u.heap.size
theorem Arr.up {u v : World} {gs n : Nat} {seen : List Int} (h : Arr u gs n seen) (hb : Below u.heap.size u v) : Arr v gs n seen :=
  ⟨fun j hj => by rw [hb.cell (p := ⟨gs, j, none⟩) h.lt]; exact h.cell j hj, fun j => by rw [hb.frozen (p := ⟨gs, j, none⟩) h.lt]; exact h.frz j, Nat.lt_of_lt_of_le h.lt hb.size⟩
theorem Arr.grown {u v : World} {gs n X : Nat} {seen : List Int} (h : Arr u gs n seen) (hg : u.grownBy v (some X)) (hX : gs ≠ X) : Arr v gs n seen := by
  have hb : v.heap[gs]? = u.heap[gs]? := hg.block gs h.lt (by simp; exact fun e => hX e)
  exact ⟨fun j hj => by rw [World.cell?_of_block (w := u) (a := ⟨gs, j, none⟩) hb]; exact h.cell j hj, fun j => by rw [World.frozen?_of_block (w := u) (a := ⟨gs, j, none⟩) hb]; exact h.frz j, Nat.lt_of_lt_of_le h.lt hg.size⟩
theorem Arr.put {u : World} {gs n : Nat} {seen : List Int} (h : Arr u gs n seen) (x : Nat) (hx : x < n) : Arr (u.setCell ⟨gs, x, none⟩ (.bool true)) gs n ((x : Int) :: seen) := by
  refine ⟨fun j hj => ?_, fun j => ?_, by simp [World.setCell]; exact h.lt⟩
  · by_cases hjx : j = x
    · subst hjx
      rw [World.cell?_setCell_same u ⟨gs, j, none⟩ _ (h.cell j hj)]
      simp
    · rw [World.cell?_setCell_other]
      · rw [h.cell j hj]
        have : ¬ ((j : Int) = (x : Int)) := by omega
        simp [this]
      · exact fun e => hjx (by simpa using e.symm)
  · rw [World.frozen?_setCell]; exact h.frz j
/-- the walk under way: the list in the making, and the table -/
structure WSt (w : World) (gs n : Nat) (a : Option Addr) (m c : Nat) (out seen : List Int) (u : World) : Prop where
  own : u.ownsRow w.heap.size 3 1 (.slice a m c) m (ic out)
  arr : Arr u gs n seen
  grown : w.grownBy u (some gs)
theorem Es.grown {w u : World} {gs : Nat} {a : Option Addr} {n : Nat} {fs : List EdgeV} (h : Es w gs a n fs) (hgs : gs ≤ w.heap.size) (hg : w.grownBy u (some gs)) : Es u gs a n fs := by
  refine ⟨h.1, h.2.imp id ?_⟩
  rintro ⟨b, off, h1, h2, h3⟩
  have hb : u.heap[b]? = w.heap[b]? := hg.block b (by omega) (by simp; omega)
  exact ⟨b, off, h1, h2, fun j x hx => by
    have := h3 j x hx
    rw [World.cell?_of_block (w := w) (a := ⟨b, _, none⟩) hb, World.cell?_of_block (w := w) (a := ⟨b, _, none⟩) hb]
    exact this⟩
theorem wkGo_len {rec : Int → Int → List Int → Option (List Int × List Int)} {es : List EdgeV} {n : Nat} {v fr : Int} {rem : Nat} {out seen t sn : List Int} (h : wkGo rec es n v fr rem out seen = some (t, sn)) : out.length ≤ t.length := by
  induction rem generalizing out seen with
  | zero => simp [wkGo] at h; rw [h.1]; exact Nat.le_refl _
  | succ rem ih =>
    rw [wkGo] at h
    split at h
    · exact ih h
    · split at h
      · simp at h
      · cases hr : rec ((n - (rem + 1) : Nat) : Int) v seen with
        | none => rw [hr] at h; simp at h
        | some p =>
          rw [hr] at h
          have := ih h
          simp at this
          omega
theorem grown_up {w u v : World} {G : Nat} (h : w.grownBy u (some G)) (hb : Below w.heap.size u v) : w.grownBy v (some G) :=
  ⟨hb.os.trans h.os, hb.tape.trans h.tape, hb.output.trans h.output, Nat.le_trans h.size hb.size, fun k hk hr => (hb.block k hk).trans (h.block k hk hr)⟩
theorem WSt.up {w : World} {gs n : Nat} {a : Option Addr} {m c : Nat} {out seen : List Int} {u v : World} (h : WSt w gs n a m c out seen u) (hb : Below u.heap.size u v) : WSt w gs n a m c out seen v :=
  ⟨own_up h.own hb, h.arr.up hb, grown_up h.grown (hb.mono h.grown.size)⟩
theorem WSt.turned {w : World} {gs n : Nat} {a : Option Addr} {m c : Nat} {out seen sn : List Int} {u v : World} (h : WSt w gs n a m c out seen u) (hgs : gs < w.heap.size) (hg : u.grownBy v (some gs)) (ha : Arr v gs n sn) : WSt w gs n a m c out sn v :=
  ⟨World.ownsRow.kept h.own hg (.inr (fun e => by have := (h.own.lt gs e).1; omega)), ha, grown_trans h.grown hg⟩
theorem WSt.app {w : World} {gs n : Nat} {a : Option Addr} {m c : Nat} {out seen : List Int} {u : World} (h : WSt w gs n a m c out seen u) (hgs : gs < w.heap.size) {xs : List Int} {m3 : Nat} {v : Value} {u' : World}
    (ho : u'.ownsRow w.heap.size 3 1 v (m + m3) (ic out ++ ic xs)) (hg : u.grownBy u' (Value.slice a m c).ownBlock) : ∃ a' c', v = .slice a' (m + m3) c' ∧ WSt w gs n a' (m + m3) c' (out ++ xs) seen u' := by
  obtain ⟨a', c', rfl⟩ := own_form ho
  rw [← ic_append] at ho
  have hb : Below w.heap.size u u' := (Below.refl _ u).grown hg h.grown.size (fun j hj => (h.own.lt j hj).1)
  have hne : (Value.slice a m c).ownBlock ≠ some gs := fun e => by have := (h.own.lt gs e).1; omega
  have hbl : u'.heap[gs]? = u.heap[gs]? := hg.block gs h.arr.lt (fun e => hne e.symm)
  exact ⟨a', c', rfl, ho, ⟨fun j hj => by rw [World.cell?_of_block (w := u) (a := ⟨gs, j, none⟩) hbl]; exact h.arr.cell j hj, fun j => by rw [World.frozen?_of_block (w := u) (a := ⟨gs, j, none⟩) hbl]; exact h.arr.frz j, Nat.lt_of_lt_of_le h.arr.lt hg.size⟩, grown_up h.grown hb⟩
theorem WSt.len {w : World} {gs n : Nat} {a : Option Addr} {m c : Nat} {out seen : List Int} {u : World} (h : WSt w gs n a m c out seen u) : out.length = m := by have := h.own.1; rw [ic_len] at this; omega
theorem wk_head {es : List EdgeV} {n f : Nat} {v fr : Int} {seen t sn : List Int} (h : wk es n f v fr seen = some (t, sn)) : 0 < t.length := by
  cases f with
  | zero => simp [wk] at h
  | succ f => rw [wk] at h; have := wkGo_len h; simp at this; omega
set_option maxRecDepth 100000 in
set_option maxHeartbeats 8000000 in
theorem l06Walk_any (es : List EdgeV) (n ne : Nat) (a : Option Addr) (c gs cs : Nat) (hn : n ≤ 12) (hne : ne ≤ 1000) (f : Nat) : ∀ (v : Nat) (fr : Int) (seen : List Int) (w : World) (t sn : List Int), wk es n f (v : Int) fr seen = some (t, sn) → t.length ≤ 1000 → v < n → Es w gs a ne es → Arr w gs n seen →
    Calls Tryz.prog 82 #[.int .i64 (n : Int), .slice a ne c, .int .i64 (v : Int), .int .i64 fr, .slice (some ⟨gs, 0, none⟩) n cs] w fun e w' => ∃ a' m c', e = .returned (.tuple #[.slice a' m c', .bool false]) ∧ w'.ownsRow w.heap.size 3 1 (.slice a' m c') m (ic t) ∧ w.grownBy w' (some gs) ∧ Arr w' gs n sn := by
  obtain ⟨i0, hi, hz0, hz1, hz2⟩ := info_parts info3i
  induction f with
  | zero => intro v fr seen w t sn h; simp [wk] at h
  | succ f ih =>
    intro v fr seen w t sn hwk htl hvn hes harr
    have IH := hideIt ih
    clear ih
    rw [wk] at hwk
    have HW := hideIt hwk
    clear hwk
    have HE := hideIt hes
    have hgl := harr.lt
    have b1 : (0 : Int) ≤ (v : Int) := by omega
    have b2 : (v : Int) < (n : Int) := by omega
    have c0 := harr.cell v hvn
    have c1 := harr.frz v
    have H0 : Hid (WSt w gs n (some ⟨w.heap.size, 0, none⟩) 1 1 [(v : Int)] ((v : Int) :: seen) ((w.setCell ⟨gs, v, none⟩ (.bool true)).alloc (.cells #[.int .i64 (v : Int)] 3))) := by
      have hsz : (w.setCell ⟨gs, v, none⟩ (.bool true)).heap.size = w.heap.size := by simp [World.setCell]
      have o1 := World.ownsRow_lit (base := w.heap.size) (e := 3) (size := 1) (w.setCell ⟨gs, v, none⟩ (.bool true)) #[.int .i64 (v : Int)] 1 (by rw [hsz]; exact Nat.le_refl _) (by unfold maxLen; omega) (by simp)
      rw [hsz] at o1
      have hb := (Below.refl _ (w.setCell ⟨gs, v, none⟩ (.bool true))).alloc (Nat.le_refl _) (.cells #[.int .i64 (v : Int)] 3)
      exact ⟨by simpa [ic] using o1, (harr.put v hvn).up hb, grown_trans (grownSet _ gs v _) (grown_of_below hb _)⟩
    clear hes harr
    go_enter Tryz.func82, Tryz.ntmps82
    go_wp2
    go_loopw [12, 13] (fun r i wr => ∃ (k m c1 : Nat) (a1 : Option Addr) (out sk : List Int), k ≤ n ∧ i = .int .i64 (k : Int) ∧ r = .slice a1 m c1 ∧ Hid (wkGo (wk es n f) es n (v : Int) fr (n - k) out sk = some (t, sn)) ∧ Hid (WSt w gs n a1 m c1 out sk wr)) (fun _ i _ => n - (intOf i).toNat)
    case atStart => exact ⟨0, 1, 1, _, [(v : Int)], (v : Int) :: seen, by omega, rfl, rfl, HW, H0⟩
    case round =>
      obtain ⟨k, m, c2, a1, out, sk, hk, rfl, rfl, HG, HS⟩ := hrel
      clear H0 HW c0 c1
      have hml := HS.out.len
      by_cases hlt : k < n
      · have b3 : (0 : Int) ≤ (k : Int) := by omega
        have b4 : (k : Int) < (n : Int) := by omega
        by_cases hvk : (v : Int) < (k : Int)
        · have d1 : decide ((v : Int) < (k : Int)) = true := decide_eq_true hvk
          have HEe : Hid (mkE (v : Int) (k : Int) = ((v : Int), (k : Int))) := by show _ = _; unfold mkE; rw [if_pos hvk]
          have hb1 : Below wr.heap.size wr (wr.alloc (.cells #[.int .i64 (v : Int), .int .i64 (k : Int)] 37)) := (Below.refl _ _).alloc (Nat.le_refl _) _
          have HS1 := hideIt (HS.out.up hb1)
          clear hb1
          obtain ⟨rem, hrem⟩ : ∃ rem, n - k = rem + 1 := ⟨n - k - 1, by omega⟩
          have hrem2 : n - (k + 1) = rem := by omega
          have hrem3 : n - (rem + 1) = k := by omega
          rw [hrem] at HG
          have Hrem := hideIt (And.intro hrem (And.intro hrem2 hrem3))
          clear hrem hrem2 hrem3
          by_cases hkf : (k : Int) = fr
          · have d2 : ((k : Int) == fr) = true := by simpa using hkf
            have HG2 : Hid (wkGo (wk es n f) es n (v : Int) fr (n - (k + 1)) out sk = some (t, sn)) := by show _ = _; rw [Hrem.out.2.1, ← wkGo_skip Hrem.out.2.2 (.inl hkf)]; exact HG.out
            clear HG HS hkf
            go_wp2
            exact ⟨⟨k + 1, m, c2, a1, out, sk, by omega, by go_num, rfl, HG2, HS1⟩, by simp [intOf]; omega⟩
          · have d2 : ((k : Int) == fr) = false := by simpa using hkf
            have HH := hideIt (l05Has_any es ((v : Int), (k : Int)) ne a c (by omega) _ ((HE.out.grown (by omega) HS1.out.grown).mono (by have := HS1.out.grown.size; omega)))
            cases hb : hasB es ((v : Int), (k : Int)) with
            | false =>
              rw [hb] at HH
              have HG2 : Hid (wkGo (wk es n f) es n (v : Int) fr (n - (k + 1)) out sk = some (t, sn)) := by
                show _ = _
                rw [Hrem.out.2.1, ← wkGo_skip Hrem.out.2.2 (.inr (by rw [HEe.out]; exact of_decide_eq_false hb))]
                exact HG.out
              clear HG HS hb
              go_wp2_with (go_at_call 76; refine HH.out.mono ?_; rintro e w3 ⟨rfl, hb3⟩)
              exact ⟨⟨k + 1, m, c2, a1, out, sk, by omega, by go_num, rfl, HG2, hideIt (HS1.out.up hb3)⟩, by simp [intOf]; omega⟩
            | true =>
              rw [hb] at HH
              obtain ⟨hks, p, hp, hgo⟩ := wkGo_go Hrem.out.2.2 hkf (by rw [HEe.out]; exact of_decide_eq_true hb) HG.out
              have hln := wkGo_len hgo
              simp at hln
              have hp0 := wk_head hp
              have HG2 : Hid (wkGo (wk es n f) es n (v : Int) fr (n - (k + 1)) (out ++ p.1 ++ [(v : Int)]) p.2 = some (t, sn)) := by show _ = _; rw [Hrem.out.2.1]; exact hgo
              have HP := hideIt hp
              have HK := hideIt hks
              clear HG HS hb hp hgo hks Hrem
              go_wp2_with (go_at_call 76; refine HH.out.mono ?_; rintro e w3 ⟨rfl, hb3⟩; refine Hid.out ?_)
              refine (show ∀ {p : Prop}, p → Hid p from fun h => h) ?_
              have HS3 := hideIt (HS1.out.up hb3)
              have e0 := HS3.out.arr.cell k hlt
              rw [decide_eq_false HK.out] at e0
              have HR := hideIt (IH.out k (v : Int) sk w3 p.1 p.2 HP.out (by omega) hlt (HE.out.grown (by omega) HS3.out.grown) HS3.out.arr)
              clear HS1 HH hb3
              go_wp2_with (go_at_call 82; refine HR.out.mono ?_; rintro e w4 ⟨a4, m4, c4, rfl, ho4, hg4, har4⟩; refine Hid.out ?_)
              refine (show ∀ {p : Prop}, p → Hid p from fun h => h) ?_
              have HS4 := hideIt (HS3.out.turned hgl hg4 har4)
              have I4 := Is_of_own ho4
              have hm4 : p.1.length = m4 := I4.1
              obtain ⟨g4, c4', hform, _⟩ := ho4.form (by omega)
              simp at hform
              obtain ⟨rfl, rfl⟩ := hform
              have HN4 := hideIt I4.news
              have HN4l : Hid ((ic p.1).length = m4 * 1) := by show _ = _; rw [ic_len]; omega
              have z4 := HS4.out.grown.size
              clear HS3 HR ho4 hg4 har4 e0 I4
              go_wp2_with (at_builtin; refine wpList_append_own _ rfl _ _ 46 rfl w.heap.size 3 i0 _ 1 8 Tryz.underlying46 hi hz0 hz1 hz2 rfl (by decide) _ _ _ rfl HS4.out.own ⟨g4, 0, none⟩ m4 c4 (ic p.1) rfl HN4l.out HN4.out ic_one (by unfold maxLen; omega) (by omega) z4 ?_)
              intro v5 w5 hown5 hg5 _
              obtain ⟨a5, c5, rfl, S5⟩ := HS4.out.app hgl hown5 hg5
              clear hown5 hg5 HS4 HN4 HN4l
              refine Hid.out ?_
              refine (show ∀ {p : Prop}, p → Hid p from fun h => h) ?_
              have HS5 := hideIt (S5.up ((Below.refl _ w5).alloc (Nat.le_refl _) (.cells #[.int .i64 (v : Int)] 3)))
              have z5 := HS5.out.grown.size
              simp at z5
              clear S5
              go_wp2_with (at_builtin; refine wpList_append_own _ rfl _ _ 46 rfl w.heap.size 3 i0 _ 1 8 Tryz.underlying46 hi hz0 hz1 hz2 rfl (by decide) _ _ _ rfl HS5.out.own ⟨w5.heap.size, 0, none⟩ 1 1 [.int .i64 (v : Int)] rfl rfl (newsI w5 (v : Int)) (by intro u hu; simp at hu; subst hu; rfl) (by unfold maxLen; omega) (by omega) (by simp; omega) ?_)
              intro v6 w6 hown6 hg6 _
              obtain ⟨a6, c6, rfl, S6⟩ := HS5.out.app hgl (xs := [(v : Int)]) hown6 hg6
              have HS6 := hideIt S6
              clear hown6 hg6 HS5 S6
              go_wp2
              exact ⟨⟨k + 1, _, c6, a6, _, p.2, by omega, by go_num, rfl, HG2, HS6⟩, by simp [intOf]; omega⟩
        · have d1 : decide ((v : Int) < (k : Int)) = false := decide_eq_false hvk
          have HEe : Hid (mkE (v : Int) (k : Int) = ((k : Int), (v : Int))) := by show _ = _; unfold mkE; rw [if_neg hvk]
          have hb1 : Below wr.heap.size wr (wr.alloc (.cells #[.int .i64 (k : Int), .int .i64 (v : Int)] 37)) := (Below.refl _ _).alloc (Nat.le_refl _) _
          have HS1 := hideIt (HS.out.up hb1)
          clear hb1
          obtain ⟨rem, hrem⟩ : ∃ rem, n - k = rem + 1 := ⟨n - k - 1, by omega⟩
          have hrem2 : n - (k + 1) = rem := by omega
          have hrem3 : n - (rem + 1) = k := by omega
          rw [hrem] at HG
          have Hrem := hideIt (And.intro hrem (And.intro hrem2 hrem3))
          clear hrem hrem2 hrem3
          by_cases hkf : (k : Int) = fr
          · have d2 : ((k : Int) == fr) = true := by simpa using hkf
            have HG2 : Hid (wkGo (wk es n f) es n (v : Int) fr (n - (k + 1)) out sk = some (t, sn)) := by show _ = _; rw [Hrem.out.2.1, ← wkGo_skip Hrem.out.2.2 (.inl hkf)]; exact HG.out
            clear HG HS hkf
            go_wp2
            exact ⟨⟨k + 1, m, c2, a1, out, sk, by omega, by go_num, rfl, HG2, HS1⟩, by simp [intOf]; omega⟩
          · have d2 : ((k : Int) == fr) = false := by simpa using hkf
            have HH := hideIt (l05Has_any es ((k : Int), (v : Int)) ne a c (by omega) _ ((HE.out.grown (by omega) HS1.out.grown).mono (by have := HS1.out.grown.size; omega)))
            cases hb : hasB es ((k : Int), (v : Int)) with
            | false =>
              rw [hb] at HH
              have HG2 : Hid (wkGo (wk es n f) es n (v : Int) fr (n - (k + 1)) out sk = some (t, sn)) := by
                show _ = _
                rw [Hrem.out.2.1, ← wkGo_skip Hrem.out.2.2 (.inr (by rw [HEe.out]; exact of_decide_eq_false hb))]
                exact HG.out
              clear HG HS hb
              go_wp2_with (go_at_call 76; refine HH.out.mono ?_; rintro e w3 ⟨rfl, hb3⟩)
              exact ⟨⟨k + 1, m, c2, a1, out, sk, by omega, by go_num, rfl, HG2, hideIt (HS1.out.up hb3)⟩, by simp [intOf]; omega⟩
            | true =>
              rw [hb] at HH
              obtain ⟨hks, p, hp, hgo⟩ := wkGo_go Hrem.out.2.2 hkf (by rw [HEe.out]; exact of_decide_eq_true hb) HG.out
              have hln := wkGo_len hgo
              simp at hln
              have hp0 := wk_head hp
              have HG2 : Hid (wkGo (wk es n f) es n (v : Int) fr (n - (k + 1)) (out ++ p.1 ++ [(v : Int)]) p.2 = some (t, sn)) := by show _ = _; rw [Hrem.out.2.1]; exact hgo
              have HP := hideIt hp
              have HK := hideIt hks
              clear HG HS hb hp hgo hks Hrem
              go_wp2_with (go_at_call 76; refine HH.out.mono ?_; rintro e w3 ⟨rfl, hb3⟩; refine Hid.out ?_)
              refine (show ∀ {p : Prop}, p → Hid p from fun h => h) ?_
              have HS3 := hideIt (HS1.out.up hb3)
              have e0 := HS3.out.arr.cell k hlt
              rw [decide_eq_false HK.out] at e0
              have HR := hideIt (IH.out k (v : Int) sk w3 p.1 p.2 HP.out (by omega) hlt (HE.out.grown (by omega) HS3.out.grown) HS3.out.arr)
              clear HS1 HH hb3
              go_wp2_with (go_at_call 82; refine HR.out.mono ?_; rintro e w4 ⟨a4, m4, c4, rfl, ho4, hg4, har4⟩; refine Hid.out ?_)
              refine (show ∀ {p : Prop}, p → Hid p from fun h => h) ?_
              have HS4 := hideIt (HS3.out.turned hgl hg4 har4)
              have I4 := Is_of_own ho4
              have hm4 : p.1.length = m4 := I4.1
              obtain ⟨g4, c4', hform, _⟩ := ho4.form (by omega)
              simp at hform
              obtain ⟨rfl, rfl⟩ := hform
              have HN4 := hideIt I4.news
              have HN4l : Hid ((ic p.1).length = m4 * 1) := by show _ = _; rw [ic_len]; omega
              have z4 := HS4.out.grown.size
              clear HS3 HR ho4 hg4 har4 e0 I4
              go_wp2_with (at_builtin; refine wpList_append_own _ rfl _ _ 46 rfl w.heap.size 3 i0 _ 1 8 Tryz.underlying46 hi hz0 hz1 hz2 rfl (by decide) _ _ _ rfl HS4.out.own ⟨g4, 0, none⟩ m4 c4 (ic p.1) rfl HN4l.out HN4.out ic_one (by unfold maxLen; omega) (by omega) z4 ?_)
              intro v5 w5 hown5 hg5 _
              obtain ⟨a5, c5, rfl, S5⟩ := HS4.out.app hgl hown5 hg5
              clear hown5 hg5 HS4 HN4 HN4l
              refine Hid.out ?_
              refine (show ∀ {p : Prop}, p → Hid p from fun h => h) ?_
              have HS5 := hideIt (S5.up ((Below.refl _ w5).alloc (Nat.le_refl _) (.cells #[.int .i64 (v : Int)] 3)))
              have z5 := HS5.out.grown.size
              simp at z5
              clear S5
              go_wp2_with (at_builtin; refine wpList_append_own _ rfl _ _ 46 rfl w.heap.size 3 i0 _ 1 8 Tryz.underlying46 hi hz0 hz1 hz2 rfl (by decide) _ _ _ rfl HS5.out.own ⟨w5.heap.size, 0, none⟩ 1 1 [.int .i64 (v : Int)] rfl rfl (newsI w5 (v : Int)) (by intro u hu; simp at hu; subst hu; rfl) (by unfold maxLen; omega) (by omega) (by simp; omega) ?_)
              intro v6 w6 hown6 hg6 _
              obtain ⟨a6, c6, rfl, S6⟩ := HS5.out.app hgl (xs := [(v : Int)]) hown6 hg6
              have HS6 := hideIt S6
              clear hown6 hg6 HS5 S6
              go_wp2
              exact ⟨⟨k + 1, _, c6, a6, _, p.2, by omega, by go_num, rfl, HG2, HS6⟩, by simp [intOf]; omega⟩
      · obtain rfl : k = n := by omega
        have HT : Hid (out = t ∧ sk = sn) := by
          show _ ∧ _
          have := HG.out
          rw [Nat.sub_self, wkGo] at this
          simpa using this
        clear HG
        go_wp2
        go_ret2
        exact ⟨a1, m, c2, rfl, by rw [← HT.out.1]; exact HS.out.own, HS.out.grown, by rw [← HT.out.2]; exact HS.out.arr⟩
end Go.Proofs.YtgjngaaibcmgmabGreat
namespace Go.Proofs.YtgjngaaibcmgmabGreat
open Go.RowKit

theorem info4b : (Tryz.prog.info? 4).map (fun i => (i.zero, i.size, i.bytes)) = some (some (.bool false), 1, 1) := by kernel_rfl
theorem arr_made (w : World) (n : Nat) : Arr (w.alloc (.cells (madeCells #[.bool false] n) 4)) w.heap.size n [] := by
  have hb : (w.alloc (.cells (madeCells #[.bool false] n) 4)).heap[w.heap.size]? = some (.cells (madeCells #[.bool false] n) 4 (0, 0)) := heap_alloc_new w _
  refine ⟨fun j hj => ?_, fun j => frozen_of_row _ _ j _ _ hb, by simp⟩
  rw [cell_of_row _ _ j _ _ _ hb]
  simp [madeCells, hj, Nat.mod_one]
set_option maxRecDepth 100000 in
set_option maxHeartbeats 4000000 in
theorem sTourOf_any (es : List EdgeV) (n ne r : Nat) (a : Option Addr) (c : Nat) (t sn : List Int) (hn0 : 1 ≤ n) (hn : n ≤ 12) (hne : ne ≤ 1000) (hr : r < n) (hok : ∀ e ∈ es, eB (n : Int) e = true) (hwk : wk es n n (r : Int) (-1) [] = some (t, sn)) (htl : t.length ≤ 1000) (w : World) (h : Es w w.heap.size a ne es) :
    Calls Tryz.prog 56 #[.int .i64 (n : Int), .slice a ne c, .int .i64 (r : Int)] w fun e w' => ∃ a' m c', e = .returned (.tuple #[.slice a' m c', .bool true]) ∧ w'.ownsRow w.heap.size 3 1 (.slice a' m c') m (ic t) ∧ Below w.heap.size w w' := by
  obtain ⟨i0, hi, hz0, hz1, hz2⟩ := info_parts info4b
  have HM : Hid (∀ u : World, (Instr.makeSlice 110 (.int .i64 (n : Int)) (.int .i64 (n : Int))).run Tryz.prog u =
      .ok (.slice (some ⟨u.heap.size, 0, none⟩) n n) (u.alloc (.cells (madeCells #[.bool false] n) 4))) := fun u => by
    have h := run_make (P := Tryz.prog) u 110 4 i0 _ Tryz.underlying110 hi hz0 .i64 .i64 (n : Int) (n : Int) (by omega) (by omega) (by rw [hz2]; omega) (by omega)
    rw [Int.toNat_natCast] at h
    simpa [hz1, Value.cells] using h
  have HE := hideIt h
  have HOk := hideIt hok
  have hlen := h.1
  have HI1 := l01In_any (n : Int) 1 12 w
  rw [decide_eq_true (by omega)] at HI1
  have HI1 := hideIt HI1
  have HI2 := l01In_any (r : Int) 0 ((n : Int) - 1) w
  rw [decide_eq_true (by omega)] at HI2
  have HI2 := hideIt HI2
  have HWk : Hid (∀ u, Below w.heap.size w u → Calls Tryz.prog 82 #[.int .i64 (n : Int), .slice a ne c, .int .i64 (r : Int), .int .i64 (-1), .slice (some ⟨u.heap.size, 0, none⟩) n n] (u.alloc (.cells (madeCells #[.bool false] n) 4)) fun e w' => ∃ a' m c', e = .returned (.tuple #[.slice a' m c', .bool false]) ∧ w'.ownsRow w.heap.size 3 1 (.slice a' m c') m (ic t) ∧ Below w.heap.size w w') := fun u hu => by
    have hb : Below u.heap.size u (u.alloc (.cells (madeCells #[.bool false] n) 4)) := (Below.refl _ _).alloc (Nat.le_refl _) _
    refine (l06Walk_any es n ne a c u.heap.size n hn hne n r (-1) [] _ t sn hwk htl hr ((HE.out.up hu).below hb (Nat.le_refl _)) (arr_made u n)).mono ?_
    rintro e w' ⟨a', m, c', he, ho, hg, _⟩
    exact ⟨a', m, c', he, own_mono ho (by have := hu.size; simp; omega), (hu.trans (hb.mono hu.size)).grown hg (by have := hu.size; simp; omega) (fun j e => by cases e; exact hu.size)⟩
  clear h hok hwk
  go_enter Tryz.func56, Tryz.ntmps56
  go_wp2_with (first | (go_at_call 31; refine HI1.out.mono ?_; clear HI1; rintro e w1 ⟨rfl, hw⟩; have hw' := hw.symm; subst hw'; clear hw) | (go_at_call 31; refine HI2.out.mono ?_; rintro e w1 ⟨rfl, hw⟩; have hw' := hw.symm; subst hw'; clear hw))
  go_loopw [8] (fun i wr => ∃ (k : Nat), k ≤ ne ∧ i = .int .i64 (k : Int) ∧ Good w wr) (fun i _ => ne - (intOf i).toNat)
  case atStart => exact ⟨0, by omega, rfl, Good.refl _⟩
  case round =>
    obtain ⟨k, hk, rfl, hg⟩ := hrel
    by_cases hlt : k < ne
    · rcases HE.out.2 with hz | ⟨b, off, rfl, hbl, hc⟩
      · omega
      · obtain ⟨f, hf⟩ : ∃ f, es[k]? = some f := ⟨es[k]'(by omega), List.getElem?_eq_getElem (by omega)⟩
        have e0 : wr.cell? ⟨b, off + k * 2, none⟩ = some (.int .i64 f.1) := by rw [Below.cell hg hbl]; exact (hc k f hf).1
        have e1 : wr.cell? ⟨b, off + k * 2 + 1, none⟩ = some (.int .i64 f.2) := by rw [Below.cell hg hbl]; exact (hc k f hf).2
        have b1 : (0 : Int) ≤ (k : Int) := by omega
        have b2 : (k : Int) < (ne : Int) := by omega
        have HS := sEdgeOk_any (n : Int) f wr
        rw [HOk.out f (List.mem_of_getElem? hf)] at HS
        have HS := hideIt HS
        clear hc hf
        go_wp2_with (go_at_call 65; refine HS.out.mono ?_; rintro e w1 ⟨rfl, hb1⟩)
        exact ⟨⟨k + 1, by omega, by go_num, hg.up hb1⟩, by simp [intOf]; omega⟩
    · have HW := hideIt (HWk.out wr hg)
      have hmk := HM.out wr
      clear HWk
      go_wp2_with (go_at_call 82; refine HW.out.mono ?_; rintro e w4 ⟨a4, m4, c4, rfl, ho4, hb4⟩)
      go_ret2
      exact ⟨a4, m4, c4, rfl, ho4, hb4⟩
end Go.Proofs.YtgjngaaibcmgmabGreat
namespace Go.Proofs.YtgjngaaibcmgmabGreat
open Go.RowKit

/-- edges between n vertices -/
def EsIn (es : List EdgeV) (n : Nat) : Prop := ∀ e ∈ es, 0 ≤ e.1 ∧ e.1 < e.2 ∧ e.2 < (n : Int)

/-- they hang together -/
def Conn (es : List EdgeV) (u v : Int) : Prop := ∀ S : Int → Prop, (∀ e ∈ es, S e.1 ↔ S e.2) → S u → S v

theorem Conn.refl (es : List EdgeV) (u : Int) : Conn es u u := fun _ _ h => h

theorem Conn.trans {es : List EdgeV} {u v x : Int} (h : Conn es u v) (k : Conn es v x) : Conn es u x := fun S hS hu => k S hS (h S hS hu)

theorem Conn.symm {es : List EdgeV} {u v : Int} (h : Conn es u v) : Conn es v u := fun S hS hv => Classical.byContradiction fun hu =>
  h (fun x => ¬ S x) (fun e he => not_congr (hS e he)) hu hv

theorem Conn.edge {es : List EdgeV} {e : EdgeV} (h : e ∈ es) : Conn es e.1 e.2 := fun _ hS h1 => (hS e h).1 h1

theorem Conn.more {es fs : List EdgeV} {u v : Int} (h : Conn es u v) (hs : ∀ e ∈ es, e ∈ fs) : Conn fs u v := fun S hS hu => h S (fun e he => hS e (hs e he)) hu

/-- parents, and where they end -/
structure Uf (es : List EdgeV) (n : Nat) (P : Nat → Option Nat) (R : Nat → Nat) : Prop where
  root : ∀ i, i < n → P i = none → R i = i
  par : ∀ i j, i < n → P i = some j → j < i ∧ R i = R j
  le : ∀ i, i < n → R i ≤ i
  idem : ∀ i, i < n → R (R i) = R i
  conn : ∀ i, i < n → Conn es (i : Int) (R i : Int)
  same : ∀ e ∈ es, R e.1.toNat = R e.2.toNat

theorem Uf.start (n : Nat) : Uf [] n (fun _ => none) (fun i => i) :=
  { root := fun _ _ _ => rfl
    par := fun _ _ _ h => nomatch h
    le := fun _ _ => Nat.le_refl _
    idem := fun _ _ => rfl
    conn := fun _ _ => Conn.refl _ _
    same := fun _ h => absurd h List.not_mem_nil }

/-- the root b gets the parent a -/
def updP (P : Nat → Option Nat) (b a : Nat) : Nat → Option Nat := fun i => if i = b then some a else P i

def updR (R : Nat → Nat) (b a : Nat) : Nat → Nat := fun i => if R i = b then a else R i

theorem Uf.same_more {es : List EdgeV} {n : Nat} {P : Nat → Option Nat} {R : Nat → Nat} (h : Uf es n P R) {e : EdgeV} (he : R e.1.toNat = R e.2.toNat) : Uf (es ++ [e]) n P R :=
  ⟨h.root, h.par, h.le, h.idem, fun i hi => (h.conn i hi).more fun d hd => by simp [hd], fun d hd => by
    rcases List.mem_append.1 hd with h1 | h1
    · exact h.same d h1
    · simp at h1; subst h1; exact he⟩

theorem Uf.join {es : List EdgeV} {n : Nat} {P : Nat → Option Nat} {R : Nat → Nat} (h : Uf es n P R) {e : EdgeV} (hi : 0 ≤ e.1 ∧ e.1 < e.2 ∧ e.2 < (n : Int)) {a b : Nat} (hab : a < b)
    (hx : (R e.1.toNat = a ∧ R e.2.toNat = b) ∨ (R e.1.toNat = b ∧ R e.2.toNat = a)) : Uf (es ++ [e]) n (updP P b a) (updR R b a) := by
  have hbn : b < n := by
    rcases hx with ⟨_, h2⟩ | ⟨h2, _⟩
    · have := h.le e.2.toNat (by omega); omega
    · have := h.le e.1.toNat (by omega); omega
  have ra : R a = a := by
    rcases hx with ⟨h1, _⟩ | ⟨_, h1⟩
    · rw [← h1]; exact h.idem _ (by omega)
    · rw [← h1]; exact h.idem _ (by omega)
  have rb : R b = b := by
    rcases hx with ⟨_, h1⟩ | ⟨h1, _⟩
    · rw [← h1]; exact h.idem _ (by omega)
    · rw [← h1]; exact h.idem _ (by omega)
  have hmore : ∀ {u v : Int}, Conn es u v → Conn (es ++ [e]) u v := fun hc => hc.more fun d hd => by simp [hd]
  have hcab : Conn (es ++ [e]) (b : Int) (a : Int) := by
    have hee : Conn (es ++ [e]) e.1 e.2 := Conn.edge (by simp)
    have c1 := hmore (h.conn e.1.toNat (by omega))
    have c2 := hmore (h.conn e.2.toNat (by omega))
    rw [show ((e.1.toNat : Nat) : Int) = e.1 by omega] at c1
    rw [show ((e.2.toNat : Nat) : Int) = e.2 by omega] at c2
    rcases hx with ⟨h1, h2⟩ | ⟨h1, h2⟩
    · rw [h1] at c1; rw [h2] at c2; exact c2.symm.trans (hee.symm.trans c1)
    · rw [h1] at c1; rw [h2] at c2; exact c1.symm.trans (hee.trans c2)
  refine ⟨?_, ?_, ?_, ?_, ?_, ?_⟩
  · intro i hi hp
    unfold updP at hp
    split at hp
    · cases hp
    · rename_i hib
      have := h.root i hi hp
      unfold updR
      rw [this, if_neg hib]
  · intro i j hi hp
    unfold updP at hp
    split at hp
    · rename_i hib
      simp at hp
      subst hib hp
      refine ⟨hab, ?_⟩
      unfold updR
      rw [rb, if_pos rfl, ra, if_neg (by omega)]
    · have := h.par i j hi hp
      refine ⟨this.1, ?_⟩
      unfold updR
      rw [this.2]
  · intro i hi
    have := h.le i hi
    unfold updR
    split
    · omega
    · exact this
  · intro i hi
    unfold updR
    by_cases h1 : R i = b
    · rw [if_pos h1, ra, if_neg (by omega)]
    · rw [if_neg h1, h.idem i hi, if_neg h1]
  · intro i hi
    have hc := hmore (h.conn i hi)
    unfold updR
    split
    · rename_i h1
      rw [h1] at hc
      exact hc.trans hcab
    · exact hc
  · intro d hd
    unfold updR
    rcases List.mem_append.1 hd with h1 | h1
    · rw [h.same d h1]
    · simp at h1
      subst h1
      rcases hx with ⟨h2, h3⟩ | ⟨h2, h3⟩
      · rw [h2, h3, if_pos rfl, if_neg (by omega)]
      · rw [h2, h3, if_pos rfl, if_neg (by omega)]

end Go.Proofs.YtgjngaaibcmgmabGreat
namespace Go.Proofs.YtgjngaaibcmgmabGreat
open Go.RowKit

/-- -1, 0 or 1 -/
def cmpI (x y : Int) : Int := if x < y then -1 else if y < x then 1 else 0
/-- the comparison of two edges -/
def cmpE (d e : EdgeV) : Int := if cmpI d.1 e.1 ≠ 0 then cmpI d.1 e.1 else cmpI d.2 e.2

theorem cmpI_zero (x y : Int) : cmpI x y = 0 ↔ x = y := by unfold cmpI; split <;> (try split) <;> omega
theorem cmpI_neg (x y : Int) : cmpI x y < 0 ↔ x < y := by unfold cmpI; split <;> (try split) <;> omega
theorem cmpE_neg (d e : EdgeV) : cmpE d e < 0 ↔ lt d e = true := by
  unfold cmpE lt
  rw [decide_eq_true_iff]
  by_cases h : cmpI d.1 e.1 = 0
  · rw [if_neg (by simpa using h), cmpI_neg]
    have := (cmpI_zero d.1 e.1).1 h
    omega
  · rw [if_pos h, cmpI_neg]
    have := mt (cmpI_zero d.1 e.1).2 h
    omega
theorem cmpE_zero (d e : EdgeV) : cmpE d e = 0 ↔ d = e := by
  unfold cmpE
  by_cases h : cmpI d.1 e.1 = 0
  · rw [if_neg (by simpa using h), cmpI_zero]
    exact ⟨fun h2 => Prod.ext ((cmpI_zero _ _).1 h) h2, fun h2 => by rw [h2]⟩
  · rw [if_pos h]
    exact ⟨fun h2 => absurd h2 h, fun h2 => absurd ((cmpI_zero _ _).2 (by rw [h2])) h⟩

theorem cmpCompare_any (x y : Int) (w : World) : Calls Tryz.prog 94 #[.int .i64 x, .int .i64 y] w fun e w' => e = .returned (.int .i64 (cmpI x y)) ∧ w' = w := by
  unfold cmpI
  by_cases h1 : x < y
  · rw [if_pos h1]
    have d1 : decide (x < y) = true := decide_eq_true h1
    go_enter Tryz.func94, Tryz.ntmps94
    go_wp2
    go_ret
    exact ⟨rfl, rfl⟩
  · rw [if_neg h1]
    have d1 : decide (x < y) = false := decide_eq_false h1
    by_cases h2 : y < x
    · rw [if_pos h2]
      have d2 : decide (y < x) = true := decide_eq_true h2
      go_enter Tryz.func94, Tryz.ntmps94
      go_wp2
      go_ret
      exact ⟨rfl, rfl⟩
    · rw [if_neg h2]
      have d2 : decide (y < x) = false := decide_eq_false h2
      go_enter Tryz.func94, Tryz.ntmps94
      go_wp2
      go_ret
      exact ⟨rfl, rfl⟩

theorem cmpOr_any (x y : Int) (b : Nat) (w : World) (h0 : w.cell? ⟨b, 0, none⟩ = some (.int .i64 x)) (h1 : w.cell? ⟨b, 1, none⟩ = some (.int .i64 y)) :
    Calls Tryz.prog 93 #[.slice (some ⟨b, 0, none⟩) 2 2] w fun e w' => e = .returned (.int .i64 (if x ≠ 0 then x else y)) ∧ w' = w := by
  go_enter Tryz.func93, Tryz.ntmps93
  go_wp2
  go_loopw [8] (fun i wr => ∃ k : Nat, k ≤ 2 ∧ i = .int .i64 (k : Int) ∧ wr = w ∧ Hid (1 ≤ k → x = 0) ∧ Hid (2 ≤ k → y = 0)) (fun i _ => 2 - (intOf i).toNat)
  case atStart => exact ⟨0, by omega, rfl, rfl, fun h => by omega, fun h => by omega⟩
  case round =>
    obtain ⟨k, hk, rfl, rfl, hx, hy⟩ := hrel
    rcases k with _ | _ | k
    · by_cases g : x = 0
      · subst g
        go_wp2
        exact ⟨⟨1, by omega, by go_num, by first | trivial | rfl, by first | exact fun _ => True.intro | exact fun _ => rfl, by first | exact True.intro | exact fun h => by omega⟩, by simp [intOf]⟩
      · have d : (x != 0) = true := by simpa using g
        go_wp2
        go_ret
        exact ⟨rfl, rfl⟩
    · have g := hx.out (by omega)
      subst g
      clear hx hy
      by_cases g : y = 0
      · subst g
        go_wp2
        exact ⟨⟨2, by omega, by go_num, by first | trivial | rfl, by first | exact fun _ => True.intro | exact fun _ => rfl, by first | exact fun _ => True.intro | exact fun _ => rfl⟩, by simp [intOf]⟩
      · have d : (y != 0) = true := by simpa using g
        go_wp2
        go_ret
        exact ⟨rfl, rfl⟩
    · obtain rfl : k = 0 := by omega
      have g := hx.out (by omega)
      have g2 := hy.out (by omega)
      subst g g2
      clear hx hy
      go_wp2
      go_ret
      exact ⟨rfl, rfl⟩

set_option maxHeartbeats 1000000 in
theorem compareEdges_any (d e : EdgeV) (w : World) :
    Calls Tryz.prog 70 #[.agg #[.int .i64 d.1, .int .i64 d.2], .agg #[.int .i64 e.1, .int .i64 e.2]] w fun x w' => x = .returned (.int .i64 (cmpE d e)) ∧ Below w.heap.size w w' := by
  obtain ⟨a, b⟩ := d
  obtain ⟨c, f⟩ := e
  dsimp only
  have HC := hideIt cmpCompare_any
  have HO : Hid (Calls Tryz.prog 93 #[.slice (some ⟨w.heap.size + 1 + 1, 0, none⟩) 2 2] (((w.alloc (.cells #[.int .i64 a, .int .i64 b] 37)).alloc (.cells #[.int .i64 c, .int .i64 f] 37)).alloc (.cells #[.int .i64 (cmpI a c), .int .i64 (cmpI b f)] 3)).drew
      fun e w' => e = .returned (.int .i64 (cmpE (a, b) (c, f))) ∧ w' = (((w.alloc (.cells #[.int .i64 a, .int .i64 b] 37)).alloc (.cells #[.int .i64 c, .int .i64 f] 37)).alloc (.cells #[.int .i64 (cmpI a c), .int .i64 (cmpI b f)] 3)).drew) :=
    cmpOr_any (cmpI a c) (cmpI b f) (w.heap.size + 1 + 1) _ (by simp [go_sem]) (by simp [go_sem])
  go_enter Tryz.func70, Tryz.ntmps70
  go_wp2
  go_region_held3 (fun u => (u.cell? ⟨w.heap.size, 0, none⟩ = some (.int .i64 a) ∧ u.cell? ⟨w.heap.size, 1, none⟩ = some (.int .i64 b)) ∧ u.cell? ⟨w.heap.size + 1, 0, none⟩ = some (.int .i64 c) ∧ u.cell? ⟨w.heap.size + 1, 1, none⟩ = some (.int .i64 f))
    (go_keep)
    (first
      | (go_at_call 94; refine (HC.out _ _ _).mono ?_; rintro e w1 ⟨rfl, rfl⟩)
      | (go_at_call 93; refine HO.out.mono ?_; rintro e w1 ⟨rfl, rfl⟩))
  all_goals
    go_wp2
    go_ret
    exact ⟨rfl, ((((Below.refl _ _).alloc (Nat.le_refl _) _).alloc (by simp) _).alloc (by simp; omega) _).drew⟩
end Go.Proofs.YtgjngaaibcmgmabGreat
namespace Go.Proofs.YtgjngaaibcmgmabGreat
open Go.RowKit

/-- the pointer to a member -/
def ptrP (g : Nat) : Option Nat → Option Addr
  | none => none
  | some j => some ⟨g, j * 2, none⟩
/-- the members stand in block g, with these parents -/
structure MSt (B g n : Nat) (P : Nat → Option Nat) (u : World) : Prop where
  own : ∃ xs, u.ownsRow B 135 2 (.slice (some ⟨g, 0, none⟩) n n) n xs
  cell : ∀ i, i < n → u.cell? ⟨g, i * 2, none⟩ = some (.int .i64 (i : Int)) ∧ u.cell? ⟨g, i * 2 + 1, none⟩ = some (.pointer (ptrP g (P i)))
/-- where a pointer points to -/
def offOf : Value → Nat
  | .pointer (some a) => a.off
  | _ => 0

set_option maxHeartbeats 1000000 in
theorem mLeast_any {B g n : Nat} {es : List EdgeV} {P : Nat → Option Nat} {R : Nat → Nat} (hu : Uf es n P R) (u : World) (hst : MSt B g n P u) (i : Nat) (hi : i < n) :
    Calls Tryz.prog 116 #[.pointer (some ⟨g, i * 2, none⟩)] u fun e w' => e = .returned (.pointer (some ⟨g, R i * 2, none⟩)) ∧ w' = u := by
  have HU := hideIt hu
  have HS := hideIt hst
  clear hu hst
  go_enter Tryz.func116, Tryz.ntmps116
  go_wp2
  go_loopw [0] (fun p wr => ∃ k : Nat, k < n ∧ p = .pointer (some ⟨g, k * 2, none⟩) ∧ Hid (R k = R i) ∧ wr = u) (fun p _ => offOf p)
  case atStart => exact ⟨i, hi, rfl, rfl, rfl⟩
  case round =>
    obtain ⟨k, hk, rfl, hR, hw⟩ := hrel
    have hw' := hw.symm
    subst hw'
    clear hw
    obtain ⟨c0, c1⟩ := HS.out.cell k hk
    cases hP : P k with
    | none =>
      rw [hP] at c1
      have HE : Hid (k = R i) := (HU.out.root k hk hP).symm.trans hR.out
      clear hR hP c0
      have c1' : u.cell? ⟨g, k * 2 + 1, none⟩ = some (.pointer none) := c1
      clear c1
      go_wp2
      go_ret
      exact ⟨by rw [← HE.out]; rfl, rfl⟩
    | some j =>
      rw [hP] at c1
      obtain ⟨hjk, hRj⟩ := HU.out.par k j hk hP
      have HE : Hid (R j = R i) := hRj.symm.trans hR.out
      clear hR hP hRj c0
      have c1' : u.cell? ⟨g, k * 2 + 1, none⟩ = some (.pointer (some ⟨g, j * 2, none⟩)) := c1
      clear c1
      go_wp2
      exact ⟨⟨j, by omega, rfl, HE, by first | trivial | rfl⟩, by simp [offOf]; omega⟩

theorem MSt.drew {B g n : Nat} {P : Nat → Option Nat} {u : World} (h : MSt B g n P u) : MSt B g n P u.drew := by
  obtain ⟨xs, ho⟩ := h.own
  exact ⟨⟨xs, ho.drew⟩, h.cell⟩
/-- the member b gets the parent a -/
theorem MSt.set {B g n : Nat} {P : Nat → Option Nat} {u : World} (h : MSt B g n P u) {a b : Nat} (hb : b < n) : MSt B g n (updP P b a) (u.setCell ⟨g, b * 2 + 1, none⟩ (.pointer (some ⟨g, a * 2, none⟩))) := by
  obtain ⟨xs, ho⟩ := h.own
  have hst := ho.stored (b * 2 + 1) (.pointer (some ⟨g, a * 2, none⟩))
  refine ⟨⟨_, hst.1⟩, fun i hi => ?_⟩
  obtain ⟨c0, c1⟩ := h.cell i hi
  refine ⟨?_, ?_⟩
  · rw [World.cell?_setCell_other _ _ _ _ (by intro e; simp at e <;> omega)]; exact c0
  · unfold updP
    split
    · rename_i hib
      subst hib
      rw [World.cell?_setCell_same _ _ _ c1]; rfl
    · rename_i hib
      rw [World.cell?_setCell_other _ _ _ _ (by intro e; simp at e <;> omega)]; exact c1
theorem MSt.grown {B g n : Nat} {P : Nat → Option Nat} {u : World} (b a : Nat) (_h : MSt B g n P u) : u.grownBy (u.setCell ⟨g, b * 2 + 1, none⟩ (.pointer (some ⟨g, a * 2, none⟩))) (some g) := grownSet u g _ _
theorem MSt.frozen {B g n : Nat} {P : Nat → Option Nat} {u : World} (h : MSt B g n P u) (j : Nat) : u.frozen? ⟨g, j, none⟩ = false := by
  obtain ⟨xs, ho⟩ := h.own
  exact ho.frozenAt j

set_option maxRecDepth 100000 in
set_option maxHeartbeats 2000000 in
theorem mJoin_any {B g n : Nat} {es : List EdgeV} {P : Nat → Option Nat} {R : Nat → Nat} (hu : Uf es n P R) (e : EdgeV) (he : 0 ≤ e.1 ∧ e.1 < e.2 ∧ e.2 < (n : Int)) (u : World) (hst : MSt B g n P u) :
    Calls Tryz.prog 117 #[.pointer (some ⟨g, e.1.toNat * 2, none⟩), .pointer (some ⟨g, e.2.toNat * 2, none⟩)] u fun x w' => x = .returned (.tuple #[]) ∧ ∃ P' R', Uf (es ++ [e]) n P' R' ∧ MSt B g n P' w' ∧ u.grownBy w' (some g) := by
  obtain ⟨i, hi⟩ : ∃ i, i = e.1.toNat := ⟨_, rfl⟩
  obtain ⟨j, hj⟩ : ∃ j, j = e.2.toNat := ⟨_, rfl⟩
  have hin : i < n := by omega
  have hjn : j < n := by omega
  have HL1 := hideIt (mLeast_any hu u hst i hin)
  have HL2 := hideIt (mLeast_any hu u hst j hjn)
  obtain ⟨a, ha⟩ : ∃ a, a = R i := ⟨_, rfl⟩
  obtain ⟨b, hb⟩ : ∃ b, b = R j := ⟨_, rfl⟩
  have han : a < n := by have := hu.le i hin; omega
  have hbn : b < n := by have := hu.le j hjn; omega
  rw [← ha] at HL1
  rw [← hb] at HL2
  obtain ⟨c0, c1⟩ := hst.cell a han
  obtain ⟨c2, c3⟩ := hst.cell b hbn
  have f1 := hst.frozen (a * 2 + 1)
  have f2 := hst.frozen (b * 2 + 1)
  have HC := hideIt cmpCompare_any
  have hk : u.drew.cell? ⟨g, a * 2, none⟩ = some (.int .i64 (a : Int)) ∧ u.drew.cell? ⟨g, b * 2, none⟩ = some (.int .i64 (b : Int)) := ⟨c0, c2⟩
  rw [← hi, ← hj]
  by_cases h1 : a < b
  · have HU := hideIt (hu.join he h1 (.inl ⟨by rw [← hi, ha], by rw [← hj, hb]⟩))
    have HM := hideIt (hst.set (a := a) hbn).drew
    have HG := hideIt (show u.grownBy (u.setCell ⟨g, b * 2 + 1, none⟩ (.pointer (some ⟨g, a * 2, none⟩))).drew (some g) from ⟨rfl, rfl, rfl, (MSt.grown b a hst).size, (MSt.grown b a hst).block⟩)
    have hcm : cmpI (a : Int) (b : Int) = -1 := by unfold cmpI; rw [if_pos (by omega)]
    clear hst hu ha hb he hi hj
    go_enter Tryz.func117, Tryz.ntmps117
    go_wp2_with (go_at_call 116; refine HL1.out.mono ?_; rintro e w1 ⟨rfl, rfl⟩; refine Hid.out ?_)
    refine (show ∀ {p : Prop}, p → Hid p from fun h => h) ?_
    go_wp2_with (go_at_call 116; refine HL2.out.mono ?_; rintro e w1 ⟨rfl, rfl⟩)
    go_region_held3 (fun v => v.cell? ⟨g, a * 2, none⟩ = some (.int .i64 (a : Int)) ∧ v.cell? ⟨g, b * 2, none⟩ = some (.int .i64 (b : Int))) (exact hk)
      ((go_at_call 94; refine (HC.out _ _ _).mono ?_; rw [hcm]; rintro e w1 ⟨rfl, rfl⟩))
    all_goals
      go_wp2
      exact bodyPost_end (v := .tuple #[]) (results_none rfl _ _ _) rfl ⟨rfl, _, _, HU.out, HM.out, HG.out⟩
  · by_cases h2 : b < a
    · have HU := hideIt (hu.join he h2 (.inr ⟨by rw [← hi, ha], by rw [← hj, hb]⟩))
      have HM := hideIt (hst.set (a := b) han).drew
      have HG := hideIt (show u.grownBy (u.setCell ⟨g, a * 2 + 1, none⟩ (.pointer (some ⟨g, b * 2, none⟩))).drew (some g) from ⟨rfl, rfl, rfl, (MSt.grown a b hst).size, (MSt.grown a b hst).block⟩)
      have hcm : cmpI (a : Int) (b : Int) = 1 := by unfold cmpI; rw [if_neg (by omega), if_pos (by omega)]
      clear hst hu ha hb he hi hj
      go_enter Tryz.func117, Tryz.ntmps117
      go_wp2_with (go_at_call 116; refine HL1.out.mono ?_; rintro e w1 ⟨rfl, rfl⟩; refine Hid.out ?_)
      refine (show ∀ {p : Prop}, p → Hid p from fun h => h) ?_
      go_wp2_with (go_at_call 116; refine HL2.out.mono ?_; rintro e w1 ⟨rfl, rfl⟩)
      go_region_held3 (fun v => v.cell? ⟨g, a * 2, none⟩ = some (.int .i64 (a : Int)) ∧ v.cell? ⟨g, b * 2, none⟩ = some (.int .i64 (b : Int))) (exact hk)
        ((go_at_call 94; refine (HC.out _ _ _).mono ?_; rw [hcm]; rintro e w1 ⟨rfl, rfl⟩))
      all_goals
        go_wp2
        exact bodyPost_end (v := .tuple #[]) (results_none rfl _ _ _) rfl ⟨rfl, _, _, HU.out, HM.out, HG.out⟩
    · have HU := hideIt (hu.same_more (e := e) (by rw [← hi, ← hj, ← ha, ← hb]; omega))
      have HM := hideIt hst.drew
      have HG := hideIt (show u.grownBy u.drew (some g) from ⟨rfl, rfl, rfl, Nat.le_refl _, fun _ _ _ => rfl⟩)
      have hcm : cmpI (a : Int) (b : Int) = 0 := by unfold cmpI; rw [if_neg (by omega), if_neg (by omega)]
      clear hst hu ha hb he hi hj
      go_enter Tryz.func117, Tryz.ntmps117
      go_wp2_with (go_at_call 116; refine HL1.out.mono ?_; rintro e w1 ⟨rfl, rfl⟩; refine Hid.out ?_)
      refine (show ∀ {p : Prop}, p → Hid p from fun h => h) ?_
      go_wp2_with (go_at_call 116; refine HL2.out.mono ?_; rintro e w1 ⟨rfl, rfl⟩)
      go_region_held3 (fun v => v.cell? ⟨g, a * 2, none⟩ = some (.int .i64 (a : Int)) ∧ v.cell? ⟨g, b * 2, none⟩ = some (.int .i64 (b : Int))) (exact hk)
        ((go_at_call 94; refine (HC.out _ _ _).mono ?_; rw [hcm]; rintro e w1 ⟨rfl, rfl⟩))
      all_goals
        go_wp2
        exact bodyPost_end (v := .tuple #[]) (results_none rfl _ _ _) rfl ⟨rfl, _, _, HU.out, HM.out, HG.out⟩

theorem MSt.lt {B g n : Nat} {P : Nat → Option Nat} {u : World} (h : MSt B g n P u) : B ≤ g ∧ g < u.heap.size := by
  obtain ⟨xs, ho⟩ := h.own
  exact ho.lt g rfl

theorem MSt.up {B g n : Nat} {P : Nat → Option Nat} {u v : World} (h : MSt B g n P u) (hb : Below u.heap.size u v) : MSt B g n P v := by
  have hl := h.lt
  obtain ⟨xs, ho⟩ := h.own
  refine ⟨⟨xs, own_up ho hb⟩, fun i hi => ?_⟩
  obtain ⟨c0, c1⟩ := h.cell i hi
  exact ⟨by rw [hb.cell (p := ⟨g, _, none⟩) hl.2]; exact c0, by rw [hb.cell (p := ⟨g, _, none⟩) hl.2]; exact c1⟩

theorem MSt.setOther {B g n : Nat} {P : Nat → Option Nat} {u : World} (h : MSt B g n P u) (G j : Nat) (v : Value) (hG : g ≠ G) : MSt B g n P (u.setCell ⟨G, j, none⟩ v) := by
  obtain ⟨xs, ho⟩ := h.own
  refine ⟨⟨xs, own_setOther ho G j v hG⟩, fun i hi => ?_⟩
  obtain ⟨c0, c1⟩ := h.cell i hi
  exact ⟨by rw [set_other hG]; exact c0, by rw [set_other hG]; exact c1⟩

theorem infoMem : (Tryz.prog.info? 135).map (fun i => (i.zero, i.size, i.bytes)) = some (some (.agg #[.int .i64 0, .pointer none]), 2, 16) := by kernel_rfl

theorem made2 (n j : Nat) (hj : j < n) : (madeCells #[.int .i64 0, .pointer none] (n * 2)).toList[j * 2 + 1]? = some (.pointer none) := by
  rw [Array.getElem?_toList]
  unfold madeCells
  rw [Array.getElem?_map, Array.getElem?_eq_getElem (by simp; omega), Array.getElem_range]
  have : (j * 2 + 1) % 2 = 1 := by omega
  simp [this]

end Go.Proofs.YtgjngaaibcmgmabGreat
namespace Go.Proofs.YtgjngaaibcmgmabGreat
open Go.RowKit

theorem vertsOk_any (x : Int) (w : World) : Calls Tryz.prog 59 #[.int .i64 x] w fun e w' => e = .returned (.bool (decide (1 ≤ x ∧ x ≤ 12))) ∧ w' = w := by
  by_cases h1 : 1 ≤ x
  · by_cases h2 : x ≤ 12
    · have d1 : decide (1 ≤ x) = true := by simpa using h1
      have d2 : decide (x ≤ 12) = true := by simpa using h2
      go_enter Tryz.func59, Tryz.ntmps59
      go_wp2
      go_ret
      exact ⟨by simp [h1, h2], rfl⟩
    · have d1 : decide (1 ≤ x) = true := by simpa using h1
      have d2 : decide (x ≤ 12) = false := by simpa using h2
      go_enter Tryz.func59, Tryz.ntmps59
      go_wp2
      go_ret
      exact ⟨by simp, rfl⟩
  · have d1 : decide (1 ≤ x) = false := by simpa using h1
    go_enter Tryz.func59, Tryz.ntmps59
    go_wp2
    go_ret
    exact ⟨by simp, rfl⟩

theorem iEdgeOk_any (n : Int) (e : EdgeV) (w : World) :
    Calls Tryz.prog 67 #[.int .i64 n, .agg #[.int .i64 e.1, .int .i64 e.2]] w fun x w' => x = .returned (.bool (eB n e)) ∧ Below w.heap.size w w' := by
  obtain ⟨a, b⟩ := e
  dsimp only
  have HI := hideIt vertsOk_any
  by_cases h1 : 1 ≤ n ∧ n ≤ 12
  · have r1 : decide (1 ≤ n ∧ n ≤ 12) = true := by simpa using h1
    by_cases h2 : 0 ≤ a
    · have r2 : decide (0 ≤ a) = true := by simpa using h2
      by_cases h3 : a < b
      · have r3 : decide (a < b) = true := by simpa using h3
        go_enter Tryz.func67, Tryz.ntmps67
        go_wp2_with (go_at_call 59; refine (HI.out _ _).mono ?_; rintro e w1 ⟨rfl, rfl⟩)
        go_ret
        exact ⟨bret (by dsimp only; omega), (Below.refl _ _).alloc (Nat.le_refl _) _⟩
      · have r3 : decide (a < b) = false := by simpa using h3
        go_enter Tryz.func67, Tryz.ntmps67
        go_wp2_with (go_at_call 59; refine (HI.out _ _).mono ?_; rintro e w1 ⟨rfl, rfl⟩)
        go_ret
        exact ⟨by simp [eB]; omega, (Below.refl _ _).alloc (Nat.le_refl _) _⟩
    · have r2 : decide (0 ≤ a) = false := by simpa using h2
      go_enter Tryz.func67, Tryz.ntmps67
      go_wp2_with (go_at_call 59; refine (HI.out _ _).mono ?_; rintro e w1 ⟨rfl, rfl⟩)
      go_ret
      exact ⟨by simp [eB]; omega, (Below.refl _ _).alloc (Nat.le_refl _) _⟩
  · have r1 : decide (1 ≤ n ∧ n ≤ 12) = false := by simpa using h1
    go_enter Tryz.func67, Tryz.ntmps67
    go_wp2_with (go_at_call 59; refine (HI.out _ _).mono ?_; rintro e w1 ⟨rfl, rfl⟩)
    go_ret
    exact ⟨by simp [eB]; omega, (Below.refl _ _).alloc (Nat.le_refl _) _⟩

end Go.Proofs.YtgjngaaibcmgmabGreat
