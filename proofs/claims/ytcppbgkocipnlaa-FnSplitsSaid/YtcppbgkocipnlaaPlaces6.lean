/- Twelve drawn numbers; whether a number is in a list. -/
import Derived.Test.YtcppbgkocipnlaaDrawTour
import Derived.Test.YtcppbgkocipnlaaFind6
namespace Go.Proofs.Ytcppbgkocipnlaa
open Go.RowKit

/-- numbers in the making, the cursor right -/
structure PAt (w : World) (G : Nat) (a : Option Addr) (len cap : Nat) (ls : List Int) (a' : Option Addr) (m c' : Nat) (u : World) : Prop where
  cur : Cur u G a len cap
  own : u.ownsRow w.heap.size 3 1 (.slice a' m c') m (ic ls)
  grown : w.grownBy u (some G)
  low : G < w.heap.size
theorem PAt.code {w : World} {G : Nat} {a : Option Addr} {len cap : Nat} {ls : List Int} {a' : Option Addr} {m c' : Nat} {u : World} (h : PAt w G a len cap ls a' m c' u) (hc : Code w G a len) : Code u G a len := hc.kept h.grown
theorem PAt.drawn {w : World} {G : Nat} {a : Option Addr} {len cap : Nat} {ls : List Int} {a' : Option Addr} {m c' : Nat} {u v : World} (h : PAt w G a len cap ls a' m c' u) (d : Drawn u v G a len cap) : PAt w G a len cap ls a' m c' v :=
  ⟨d.cur, World.ownsRow.kept h.own d.grown (.inr (fun e => by have := (h.own.lt G e).1; have := h.low; omega)), grown_trans h.grown d.grown, h.low⟩
theorem PAt.up {w : World} {G : Nat} {a : Option Addr} {len cap : Nat} {ls : List Int} {a' : Option Addr} {m c' : Nat} {u v : World} (h : PAt w G a len cap ls a' m c' u) (hb : Below u.heap.size u v) : PAt w G a len cap ls a' m c' v :=
  ⟨h.cur.up hb, own_up h.own hb, grown_up h.grown (hb.mono h.grown.size), h.low⟩
theorem PAt.app {w : World} {G : Nat} {a : Option Addr} {len cap : Nat} {ls : List Int} {a' : Option Addr} {m c' : Nat} {u : World} (h : PAt w G a len cap ls a' m c' u) {x : Int} {v : Value} {u' : World}
    (ho : u'.ownsRow w.heap.size 3 1 v (m + 1) (ic ls ++ [.int .i64 x])) (hg : u.grownBy u' (Value.slice a' m c').ownBlock) : ∃ a2 c2, v = .slice a2 (m + 1) c2 ∧ PAt w G a len cap (ls ++ [x]) a2 (m + 1) c2 u' := by
  obtain ⟨a2, c2, rfl⟩ := own_form ho
  rw [← ic_snoc] at ho
  have hb : Below w.heap.size u u' := (Below.refl _ u).grown hg h.grown.size (fun j hj => (h.own.lt j hj).1)
  have hne : (Value.slice a' m c').ownBlock ≠ some G := fun e => by have := (h.own.lt G e).1; have := h.low; omega
  have hbl : u'.heap[G]? = u.heap[G]? := hg.block G h.cur.lt (fun e => hne e.symm)
  obtain ⟨i, y, h1, h2⟩ := h.cur
  exact ⟨a2, c2, rfl, ⟨i, y, h1, hbl.trans h2⟩, ho, grown_up h.grown hb, h.low⟩
set_option maxRecDepth 100000 in
set_option maxHeartbeats 2000000 in
theorem drawPlaces_any (w : World) (a : Option Addr) (len cap : Nat) (hl : len ≤ 1048576) (hcode : Code w w.heap.size a len) :
    Calls Try.prog 16 #[.slice a len cap] w fun e w' => ∃ (g c m : Nat) (ls : List Int), Hid (ls.length = 12 ∧ ∀ z ∈ ls, 0 ≤ z ∧ z < 10000) ∧ e = .returned (.slice (some ⟨g, 0, none⟩) m c) ∧ w'.ownsRow w.heap.size 3 1 (.slice (some ⟨g, 0, none⟩) m c) m (ic ls) ∧ Below w.heap.size w w' := by
  obtain ⟨i0, hi, hz0, hz1, hz2⟩ := info_parts info3i
  have HN := hideIt (l01New_any w a len cap hl hcode)
  clear hcode
  go_enter Try.func16, Try.ntmps16
  go_wp2_with (go_at_call 29; refine HN.out.mono ?_; rintro e w1 ⟨rfl, hc, hd, hb, hs⟩; refine Hid.out ?_)
  refine (show ∀ {p : Prop}, p → Hid p from fun h => h) ?_
  have HP := hideIt (l01Byte_drawn w1 w.heap.size a len cap hl hc hd)
  clear hc hd HN
  go_wp2_with (go_at_call 40; refine HP.out.mono ?_; rintro e w2 ⟨x, hx, rfl, dr⟩; refine Hid.out ?_)
  refine (show ∀ {p : Prop}, p → Hid p from fun h => h) ?_
  have hb2 : Below w.heap.size w w2 := hb.trans ((Below.refl w.heap.size w1).grown dr.grown (by omega) (fun j e => by cases e; exact Nat.le_refl _))
  have s2 := dr.grown.size
  have hb0 : Below w2.heap.size w2 (w2.alloc (.cells #[] 3)) := (Below.refl _ _).alloc (Nat.le_refl _) _
  have H0 : Hid (PAt w2 w.heap.size a len cap [] (some ⟨w2.heap.size, 0, none⟩) 0 0 (w2.alloc (.cells #[] 3))) :=
    ⟨dr.cur.up hb0, (ISt.start w2).own, grown_of_below hb0 _, by omega⟩
  have HCd := hideIt dr.code
  have HBl := hideIt hb2
  have HB := hideIt (fun (W : World) (hc : Cur W w.heap.size a len cap) (hd : Code W w.heap.size a len) => l01Below_any 10000 (by omega) (by omega) W w.heap.size a len cap hl hc hd)
  clear dr HP hb hx hb0 hb2
  go_wp2
  go_loopw [4, 5] (fun r i wr => ∃ (k c1 : Nat) (a1 : Option Addr) (ls : List Int), k ≤ 12 ∧ i = .int .i64 (k : Int) ∧ r = .slice a1 k c1 ∧ Hid (ls.length = k ∧ ∀ z ∈ ls, 0 ≤ z ∧ z < 10000) ∧ Hid (PAt w2 w.heap.size a len cap ls a1 k c1 wr)) (fun _ i _ => 12 - (intOf i).toNat)
  case atStart => exact ⟨0, 0, _, [], by omega, rfl, rfl, ⟨rfl, by simp⟩, H0⟩
  case round =>
    obtain ⟨k, c1, a1, ls, hk, rfl, rfl, HL, HT⟩ := hrel
    clear H0
    by_cases hlt : k < 12
    · have HX := hideIt (HB.out wr HT.out.cur (HT.out.code HCd.out))
      go_wp2_with (go_at_call 31; refine HX.out.mono ?_; rintro e w3 ⟨x, hx, rfl, d3⟩; refine Hid.out ?_)
      refine (show ∀ {p : Prop}, p → Hid p from fun h => h) ?_
      have HT3 := hideIt ((HT.out.drawn d3).up ((Below.refl _ w3).alloc (Nat.le_refl _) (.cells #[.int .i64 (x : Int)] 3)))
      have HL2 : Hid ((ls ++ [(x : Int)]).length = k + 1 ∧ ∀ z ∈ ls ++ [(x : Int)], 0 ≤ z ∧ z < 10000) := by
        refine ⟨by rw [List.length_append, HL.out.1]; rfl, fun z hz => ?_⟩
        rcases List.mem_append.1 hz with hz | hz
        · exact HL.out.2 z hz
        · simp at hz; omega
      have z3 := HT3.out.grown.size
      simp at z3
      clear HX d3 HT HL
      go_wp2_with (at_builtin; refine wpList_append_own _ rfl _ _ 24 rfl w2.heap.size 3 i0 _ 1 8 Try.underlying24 hi hz0 hz1 hz2 rfl (by decide) _ _ _ rfl HT3.out.own ⟨w3.heap.size, 0, none⟩ 1 1 [.int .i64 (x : Int)] rfl rfl (newsI w3 (x : Int)) (by intro u hu; simp at hu; subst hu; rfl) (by unfold maxLen; omega) (by omega) (by simp; omega) ?_)
      intro v5 w5 hown5 hg5 _
      obtain ⟨a5, c5, rfl, S5⟩ := HT3.out.app hown5 hg5
      have HS5 := hideIt S5
      clear hown5 hg5 HT3 S5
      go_wp2
      exact ⟨⟨k + 1, c5, a5, _, by omega, by go_num, rfl, HL2, HS5⟩, by simp [intOf]; omega⟩
    · obtain rfl : k = 12 := by omega
      obtain ⟨g, c2, hform, _⟩ := HT.out.own.form (by omega)
      simp at hform
      obtain ⟨rfl, rfl⟩ := hform
      go_wp2
      go_ret
      refine ⟨g, c1, 12, ls, HL, rfl, own_mono HT.out.own HBl.out.size, ?_⟩
      exact HBl.out.trans ((Below.refl w.heap.size w2).grown HT.out.grown (by omega) (fun j e => by cases e; exact Nat.le_refl _))
set_option maxHeartbeats 1000000 in
theorem in_any (ls : List Int) (v : Int) (n : Nat) (a : Option Addr) (c : Nat) (hn : n ≤ 3000000) (w : World) (h : Is w w.heap.size a n ls) :
    Calls Try.prog 17 #[.slice a n c, .int .i64 v] w fun e w' => e = .returned (.bool (decide (v ∈ ls))) ∧ w' = w := by
  obtain ⟨hlen, hrow⟩ := h
  have HR := hideIt hrow
  clear hrow
  go_enter Try.func17, Try.ntmps17
  go_wp2
  go_loopw [5] (fun i wr => ∃ (k : Nat), k ≤ n ∧ i = .int .i64 (k : Int) ∧ Hid (∀ j, j < k → atP ls v j = false) ∧ wr = w) (fun i _ => n - (intOf i).toNat)
  case atStart => exact ⟨0, by omega, rfl, fun j hj => by omega, rfl⟩
  case round =>
    obtain ⟨k, hk, rfl, HF, hw⟩ := hrel
    have hw' := hw.symm
    subst hw'
    clear hw
    by_cases hlt : k < n
    · rcases HR.out with hz | ⟨b, off, rfl, hbl, hc⟩
      · omega
      · obtain ⟨f, hf⟩ : ∃ f, ls[k]? = some f := ⟨ls[k]'(by omega), List.getElem?_eq_getElem (by omega)⟩
        have e0 := hc k f hf
        have b1 : (0 : Int) ≤ (k : Int) := by omega
        have b2 : (k : Int) < (n : Int) := by omega
        by_cases hv : f = v
        · have d1 : (f == v) = true := by simpa using hv
          have hm := hideIt (show v ∈ ls from hv ▸ List.mem_of_getElem? hf)
          clear hc hf hv
          go_wp2
          go_ret
          exact ⟨retT hm.out, rfl⟩
        · have d1 : (f == v) = false := by simpa using hv
          have HF2 := hideIt (all_step HF.out (atP_no hf hv))
          clear hc hf hv HF
          go_wp2
          exact ⟨⟨k + 1, by omega, by go_num, HF2, by first | trivial | rfl⟩, by simp [intOf]; omega⟩
    · obtain rfl : k = n := by omega
      have hm := hideIt (mem_of_atP hlen HF.out)
      clear HF
      go_wp2
      go_ret
      exact ⟨retF hm.out, rfl⟩

end Go.Proofs.Ytcppbgkocipnlaa
