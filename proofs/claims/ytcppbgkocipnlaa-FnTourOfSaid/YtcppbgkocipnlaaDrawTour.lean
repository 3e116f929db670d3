/- A drawn right tour. -/
import Derived.Test.YtcppbgkocipnlaaPut6
import Derived.Test.YtcppbgkocipnlaaSTourOf
import Derived.Test.YtcppbgkocipnlaaDraw6
namespace Go.Proofs.Ytcppbgkocipnlaa
open Go.RowKit

theorem Cur.lt {u : World} {G : Nat} {a : Option Addr} {len cap : Nat} (h : Cur u G a len cap) : G < u.heap.size := by
  obtain ⟨i, x, hc, hb⟩ := h
  exact (Array.getElem?_eq_some_iff.1 hb).1
theorem Cur.up {u v : World} {G : Nat} {a : Option Addr} {len cap : Nat} (h : Cur u G a len cap) (hb : Below u.heap.size u v) : Cur v G a len cap := by
  have hl := h.lt
  obtain ⟨i, x, hc, hg⟩ := h
  exact ⟨i, x, hc, (hb.block G hl).trans hg⟩
theorem Code.up {u v : World} {G : Nat} {a : Option Addr} {len : Nat} (h : Code u G a len) (hb : Below u.heap.size u v) : Code v G a len :=
  h.kept (grown_of_below hb _)
/-- the list of edges in the making, the cursor right -/
structure TAt (w : World) (G : Nat) (a : Option Addr) (len cap : Nat) (es : List EdgeV) (a' : Option Addr) (m c' : Nat) (u : World) : Prop where
  cur : Cur u G a len cap
  own : u.ownsRow w.heap.size 40 2 (.slice a' m c') m (ecells es)
  grown : w.grownBy u (some G)
  low : G < w.heap.size
theorem TAt.code {w : World} {G : Nat} {a : Option Addr} {len cap : Nat} {es : List EdgeV} {a' : Option Addr} {m c' : Nat} {u : World} (h : TAt w G a len cap es a' m c' u) (hc : Code w G a len) : Code u G a len := hc.kept h.grown
theorem TAt.len' {w : World} {G : Nat} {a : Option Addr} {len cap : Nat} {es : List EdgeV} {a' : Option Addr} {m c' : Nat} {u : World} (h : TAt w G a len cap es a' m c' u) : es.length = m := by have := h.own.1; rw [ecells_length] at this; omega
theorem TAt.drawn {w : World} {G : Nat} {a : Option Addr} {len cap : Nat} {es : List EdgeV} {a' : Option Addr} {m c' : Nat} {u v : World} (h : TAt w G a len cap es a' m c' u) (d : Drawn u v G a len cap) : TAt w G a len cap es a' m c' v :=
  ⟨d.cur, World.ownsRow.kept h.own d.grown (.inr (fun e => by have := (h.own.lt G e).1; have := h.low; omega)), grown_trans h.grown d.grown, h.low⟩
theorem TAt.turn {w : World} {G : Nat} {a : Option Addr} {len cap : Nat} {es : List EdgeV} {a' : Option Addr} {m c' : Nat} {u v : World} (h : TAt w G a len cap es a' m c' u) (hb : Below u.heap.size u v) {fs : List EdgeV} {a2 : Option Addr} {m2 c2 : Nat}
    (ho : v.ownsRow u.heap.size 40 2 (.slice a2 m2 c2) m2 (ecells fs)) : TAt w G a len cap fs a2 m2 c2 v :=
  ⟨h.cur.up hb, own_mono ho h.grown.size, grown_up h.grown (hb.mono h.grown.size), h.low⟩

set_option maxRecDepth 100000 in
set_option maxHeartbeats 4000000 in
theorem l06Tree_any (n : Nat) (hn0 : 1 ≤ n) (hn : n ≤ 12) (w : World) (G : Nat) (a : Option Addr) (len cap : Nat) (hl : len ≤ 1048576) (hcur : Cur w G a len cap) (hcode : Code w G a len) :
    Calls Try.prog 55 #[.pointer (some ⟨G, 0, none⟩), .int .i64 (n : Int)] w fun x w' => ∃ (es : List EdgeV) (a' : Option Addr) (m c' : Nat), Hid (Forest es n ∧ es.length ≤ 20) ∧ x = .returned (.slice a' m c') ∧ TAt w G a len cap es a' m c' w' := by
  have HO := hideIt (fun (W : World) (hc : Cur W G a len cap) (hd : Code W G a len) => l01Once_any 6 (by omega) (by omega) W G a len cap hl hc hd)
  have HB := hideIt (fun (n : Int) (h0 : 0 < n) (h1 : n ≤ 4294967296) (W : World) (hc : Cur W G a len cap) (hd : Code W G a len) => l01Below_any n h0 h1 W G a len cap hl hc hd)
  have hb0 : Below w.heap.size w (w.alloc (.cells #[] 40)) := (Below.refl _ _).alloc (Nat.le_refl _) _
  have H0 : Hid (TAt w G a len cap [] (some ⟨w.heap.size, 0, none⟩) 0 0 (w.alloc (.cells #[] 40))) := by
    have h0 := World.ownsRow_lit (base := w.heap.size) (e := 40) (size := 2) w #[] 0 (Nat.le_refl _) (by unfold maxLen; omega) (by simp)
    exact ⟨hcur.up hb0, by simpa [ecells] using h0, grown_of_below hb0 _, hcur.lt⟩
  have HC := hideIt hcode
  clear hcur hcode hb0
  go_enter Try.func55, Try.ntmps55
  go_wp2
  go_loopw [5, 6] (fun r i wr => ∃ (k : Nat) (es : List EdgeV) (a' : Option Addr) (m c' : Nat), 1 ≤ k ∧ k ≤ n ∧ i = .int .i64 (k : Int) ∧ r = .slice a' m c' ∧ Hid (Forest es k ∧ es.length ≤ k) ∧ Hid (TAt w G a len cap es a' m c' wr)) (fun _ i _ => n - (intOf i).toNat)
  case atStart => exact ⟨1, [], _, 0, 0, by omega, by omega, rfl, rfl, ⟨Forest.nil 1, by simp⟩, H0⟩
  case round =>
    obtain ⟨k, es, a', m, c', hk1, hk, rfl, rfl, HF, HT⟩ := hrel
    clear H0
    by_cases hlt : k < n
    · have b1 : (0 : Int) ≤ (k : Int) := by omega
      have b2 : (k : Int) < (n : Int) := by omega
      have HX := hideIt (HO.out wr HT.out.cur (HT.out.code HC.out))
      go_wp2_with (go_at_call 75; refine HX.out.mono ?_; rintro e w1 ⟨ob, rfl, d1⟩; refine Hid.out ?_)
      refine (show ∀ {p : Prop}, p → Hid p from fun h => h) ?_
      have HT1 := hideIt (HT.out.drawn d1)
      clear HX d1 HT
      cases ob with
      | true =>
        have HF2 : Hid (Forest es (k + 1) ∧ es.length ≤ k + 1) := ⟨HF.out.1.more, by have := HF.out.2; omega⟩
        clear HF
        go_wp2
        exact ⟨⟨k + 1, es, a', m, c', by omega, by omega, by go_num, rfl, HF2, HT1⟩, by simp [intOf]; omega⟩
      | false =>
        have HX := hideIt (HB.out (k : Int) (by omega) (by omega) w1 HT1.out.cur (HT1.out.code HC.out))
        go_wp2_with (go_at_call 31; refine HX.out.mono ?_; rintro e w2 ⟨x, hx, rfl, d2⟩; refine Hid.out ?_)
        refine (show ∀ {p : Prop}, p → Hid p from fun h => h) ?_
        have HT2 := hideIt (HT1.out.drawn d2)
        clear HX d2 HT1
        have hml := HT2.out.len'
        have hfl := HF.out.2
        have HP := hideIt (l05Put_any es ((x : Int), (k : Int)) m a' c' (by omega) w2 (Es_of_own HT2.out.own))
        have HF2 : Hid (Forest (putE es ((x : Int), (k : Int))) (k + 1) ∧ (putE es ((x : Int), (k : Int))).length ≤ k + 1) := ⟨HF.out.1.put (by omega), by have := put_len es ((x : Int), (k : Int)); omega⟩
        clear HF
        go_wp2_with (go_at_call 76; refine HP.out.mono ?_; rintro e w3 ⟨a3, m3, c3, rfl, ho3, hb3⟩)
        exact ⟨⟨k + 1, _, a3, m3, c3, by omega, by omega, by go_num, rfl, HF2, hideIt (HT2.out.turn hb3 ho3)⟩, by simp [intOf]; omega⟩
    · obtain rfl : k = n := by omega
      have HF2 : Hid (Forest es k ∧ es.length ≤ 20) := ⟨HF.out.1, by have := HF.out.2; omega⟩
      clear HF
      go_wp2
      go_ret
      exact ⟨es, a', m, c', HF2, rfl, HT.out⟩

theorem forest_eB {es : List EdgeV} {n : Nat} (h : Forest es n) (h0 : 1 ≤ n) (h1 : n ≤ 12) : ∀ e ∈ es, eB (n : Int) e = true := fun e he => by
  have := h.ends e he
  unfold eB
  exact decide_eq_true (by omega)
set_option maxHeartbeats 2000000 in
theorem l06Tour_any (w : World) (G : Nat) (a : Option Addr) (len cap : Nat) (hl : len ≤ 1048576) (hcur : Cur w G a len cap) (hcode : Code w G a len) :
    Calls Try.prog 30 #[.pointer (some ⟨G, 0, none⟩)] w fun x w' => ∃ (t : List Int) (a' : Option Addr) (m c' : Nat), Hid (tB t = true) ∧ x = .returned (.slice a' m c') ∧ w'.ownsRow w.heap.size 3 1 (.slice a' m c') m (ic t) ∧ Drawn w w' G a len cap := by
  have hlo := hcur.lt
  have HB := hideIt (fun (n : Int) (h0 : 0 < n) (h1 : n ≤ 4294967296) (W : World) (hc : Cur W G a len cap) (hd : Code W G a len) => l01Below_any n h0 h1 W G a len cap hl hc hd)
  have HTr := hideIt (fun (n : Nat) (h0 : 1 ≤ n) (h1 : n ≤ 12) (W : World) (hc : Cur W G a len cap) (hd : Code W G a len) => l06Tree_any n h0 h1 W G a len cap hl hc hd)
  have HX := hideIt (HB.out 12 (by omega) (by omega) w hcur hcode)
  have HC := hideIt hcode
  clear hcur hcode
  go_enter Try.func30, Try.ntmps30
  go_wp2_with (go_at_call 31; refine HX.out.mono ?_; rintro e w1 ⟨x, hx, rfl, d1⟩; refine Hid.out ?_)
  refine (show ∀ {p : Prop}, p → Hid p from fun h => h) ?_
  clear HX
  obtain ⟨n, hn⟩ : ∃ n, n = 1 + x := ⟨_, rfl⟩
  have en : (1 : Int) + (x : Int) = (n : Int) := by omega
  have hn0 : 1 ≤ n := by omega
  have hn12 : n ≤ 12 := by omega
  have HX := hideIt (HTr.out n hn0 hn12 w1 d1.cur d1.code)
  clear hn hx
  go_wp2_with (go_at_call 55; refine HX.out.mono ?_; rintro e w2 ⟨es, a', m, c', HF, rfl, hT⟩; refine Hid.out ?_)
  refine (show ∀ {p : Prop}, p → Hid p from fun h => h) ?_
  clear HX en
  have hml := hT.len'
  have hfl := HF.out.2
  have hz1 := d1.grown.size
  have HX := hideIt (HB.out (n : Int) (by omega) (by omega) w2 hT.cur (hT.code d1.code))
  go_wp2_with (go_at_call 31; refine HX.out.mono ?_; rintro e w3 ⟨r, hr, rfl, d3⟩; refine Hid.out ?_)
  refine (show ∀ {p : Prop}, p → Hid p from fun h => h) ?_
  clear HX
  have hT3 := hT.drawn d3
  obtain ⟨t, sn, hwk, htB, _⟩ := forest_tour HF.out.1 hn12 (r := r) (by omega)
  have hz3 := hT3.grown.size
  have HS := hideIt (sTourOf_any es n m r a' c' t sn hn0 hn12 (by omega) (by omega) (forest_eB HF.out.1 hn0 hn12) hwk (by have := tB_len htB; omega) w3 (Es_of_own hT3.own))
  have HTB := hideIt htB
  have HCu := hideIt hT3.cur
  have HGr := hideIt (grown_trans d1.grown hT3.grown)
  clear hT hT3 d3 hwk htB d1 HF
  go_wp2_with (go_at_call 21; refine HS.out.mono ?_; rintro e w4 ⟨a4, m4, c4, rfl, ho4, hb4⟩)
  go_ret
  have hg := grown_up HGr.out (hb4.mono HGr.out.size)
  exact ⟨t, a4, m4, c4, HTB, rfl, own_mono ho4 HGr.out.size, HCu.out.up hb4, HC.out.kept hg, hg⟩
end Go.Proofs.Ytcppbgkocipnlaa
