/- The walk of FnHeadNew. -/
import Derived.Test.YtiidomopnmjhbaaKTk17
import Derived.Test.YtiidomopnmjhbaaKDraw7
namespace Go.Proofs.Ytiidomopnmjhbaa
open Go.RowKit

theorem drawHeadNew_any (w : World) (a : Option Addr) (len cap : Nat) (hl : len ≤ 1048576) (hcode : Code w w.heap.size a len) :
    Calls Try.prog 6 #[.slice a len cap] w fun e w' => ∃ x y : Int, e = .returned (.tuple #[.int .i64 x, .int .i64 y]) ∧ Below w.heap.size w w' := by
  have HN := hideIt (l01New_any w a len cap hl hcode)
  clear hcode
  go_enter Try.func6, Try.ntmps6
  go_wp2_with (go_at_call 18; refine HN.out.mono ?_; rintro e w1 ⟨rfl, hc, hd, hb, hs⟩; refine Hid.out ?_)
  refine (show ∀ {p : Prop}, p → Hid p from fun h => h) ?_
  have HT := hideIt (l01Place7_any 13 (by omega) (by omega) w1 w.heap.size a len cap hl hc hd)
  clear HN hc hd
  go_wp2_with (go_at_call 19; refine HT.out.mono ?_; rintro e w2 ⟨x, rfl, d2⟩; refine Hid.out ?_)
  refine (show ∀ {p : Prop}, p → Hid p from fun h => h) ?_
  have HT2 := hideIt (l01Place7_any 4 (by omega) (by omega) w2 w.heap.size a len cap hl d2.cur d2.code)
  have s2 := d2.grown.size
  clear HT
  go_wp2_with (go_at_call 19; refine HT2.out.mono ?_; rintro e w3 ⟨y, rfl, d3⟩)
  exact bodyPost_ret (v := .tuple #[.int .i64 x, .int .i64 y]) (by simp [results, Try.results6, go_sem]) rfl ⟨x, y, rfl, hb.trans ((Below.refl w.heap.size w1).grown (d2.trans d3).grown (by omega) (fun j e => by cases e; exact Nat.le_refl _))⟩
theorem bupZ {w u v : World} (h : Below w.heap.size w u) (hb : Below u.heap.size u v) : Below w.heap.size w v := h.trans (hb.mono h.size)
/-- what a new head's lists are -/
theorem nwH_of {u : World} {B nn sh : Nat} {aO : Option Addr} {v cO : Nat} {aL : Option Addr} {k cL : Nat} {aN : Option Addr} {R : List Rw} (h : (1 ≤ nn ∧ nn ≤ 12) ∧ 1 ≤ sh ∧ sh ≤ 3) (q : HOwn u B (newH nn sh) (nwP aO v cO aL k cL aN) R) : v = nn ∧ k = sh ∧ NwH u nn sh aO aL aN := by
  have i := q.inn
  have e1 : (ownL sh nn).length = v := i.o.1
  have e2 : (List.replicate sh (0 : Int)).length = k := i.n.1
  rw [ownL_len] at e1
  rw [List.length_replicate] at e2
  subst e1
  subst e2
  exact ⟨rfl, rfl, i.o, i.l, i.n, h.1.1, h.1.2, h.2.1, h.2.2⟩
theorem hn_cases (n sh : Int) : (∃ nn s : Nat, n = (nn : Int) ∧ sh = (s : Int) ∧ ((1 ≤ nn ∧ nn ≤ 12) ∧ 1 ≤ s ∧ s ≤ 3) ∧ hnB n sh = true ∧ hnH n sh = newH nn s) ∨ (hnB n sh = false ∧ (hnH n sh).N = 0) := by
  by_cases h : (1 ≤ n ∧ n ≤ 12) ∧ 1 ≤ sh ∧ sh ≤ 3
  · obtain ⟨nn, rfl⟩ : ∃ nn : Nat, n = (nn : Int) := ⟨n.toNat, by omega⟩
    obtain ⟨s, rfl⟩ : ∃ s : Nat, sh = (s : Int) := ⟨sh.toNat, by omega⟩
    have h' : (1 ≤ nn ∧ nn ≤ 12) ∧ 1 ≤ s ∧ s ≤ 3 := by omega
    exact .inl ⟨nn, s, rfl, rfl, h', (hn_yes h').2, (hn_yes h').1⟩
  · exact .inr ⟨(hn_no h).2, by rw [(hn_no h).1]; rfl⟩

set_option maxRecDepth 100000 in
set_option maxHeartbeats 16000000 in
theorem fnHeadNew.walk (a : Option Addr) (len cap : Nat) (w : World) (hcode : Code w w.heap.size a len) :
    Calls Try.prog 3 #[.slice a len cap] w fun e w' => e = .returned (.bool true) ∧ Below w.heap.size w w' := by
  have HBig := hideIt (big7_any w a len cap)
  by_cases hl : len ≤ 1048576
  case neg =>
    have d0 : decide ((1048576 : Int) < (len : Int)) = true := decide_eq_true (by omega)
    clear hcode
    go_enter Try.func3, Try.ntmps3
    go_wp2_with (go_at_call 5; refine HBig.out.mono ?_; rintro e w1 ⟨rfl, rfl⟩)
    go_ret
    exact ⟨rfl, Below.refl _ _⟩
  have d0 : decide ((1048576 : Int) < (len : Int)) = false := decide_eq_false (by omega)
  have H1 := hideIt (drawHeadNew_any w a len cap hl hcode)
  clear hcode
  go_enter Try.func3, Try.ntmps3
  go_wp2_with (go_at_call 5; refine HBig.out.mono ?_; rintro e w0 ⟨rfl, hw⟩; have hw' := hw.symm; subst hw'; clear hw; refine Hid.out ?_)
  refine hidp ?_
  clear HBig
  go_wp2_with (go_at_call 6; refine H1.out.mono ?_; rintro e w1 ⟨n, s, rfl, b1⟩; refine Hid.out ?_)
  refine hidp ?_
  clear H1
  have HI := hideIt (iHeadNew_any n s w1)
  have HS := hideIt (sHeadNew_any n s)
  have HCa := hideIt (hn_cases n s)
  obtain ⟨N, hN⟩ : ∃ N, N = (hnH n s).N := ⟨_, rfl⟩
  obtain ⟨fl, hfl⟩ : ∃ fl, fl = hnB n s := ⟨_, rfl⟩
  unfold HnA at HS HI
  rw [← hN, ← hfl] at HS
  rw [← hN, ← hfl] at HI
  have hff : (fl != fl) = false := by simp
  have HN := hideIt hN
  have Hf := hideIt hfl
  clear hN hfl
  go_wp2_with (go_at_call 7; refine HI.out.mono ?_; rintro e w2 ⟨aO, v, cO, aL, k, cL, aN, R, rfl, q2, _, b2⟩; refine Hid.out ?_)
  refine hidp ?_
  obtain ⟨W3, hW3⟩ : ∃ W3, W3 = w2.alloc (.cells #[.int .i64 N, .slice aO v cO, .slice none 0 0, .slice aL k cL, .slice aN k k, .int .i64 0, .int .i64 0, .int .i64 0, .int .i64 0, .int .i64 0, .int .i64 0, .int .i64 0, .slice none 0 0, .int .i64 0, .slice none 0 0] 37) := ⟨_, rfl⟩
  obtain ⟨B3, hB3⟩ : ∃ B3, B3 = w2.heap.size := ⟨_, rfl⟩
  have bA : Below w2.heap.size w2 W3 := by rw [hW3]; exact belA _ _
  have X3 : BxA W3 B3 37 #[.int .i64 N, .slice aO v cO, .slice none 0 0, .slice aL k cL, .slice aN k k, .int .i64 0, .int .i64 0, .int .i64 0, .int .i64 0, .int .i64 0, .int .i64 0, .int .i64 0, .slice none 0 0, .int .i64 0, .slice none 0 0] := by rw [hW3, hB3]; exact BxA.new _ _ _
  have HB3 := hideIt (bupZ (bupZ b1 b2) bA)
  have HX3 := hideIt X3
  have HQ := hideIt (fun (nn sh : Nat) (h : (1 ≤ nn ∧ nn ≤ 12) ∧ 1 ≤ sh ∧ sh ≤ 3) (e : hnH n s = newH nn sh) => (show v = nn ∧ k = sh ∧ NwH W3 nn sh aO aL aN from by
    rw [e] at q2
    obtain ⟨e1, e2, e3⟩ := nwH_of h q2
    exact ⟨e1, e2, e3.up bA⟩))
  clear HI b1 b2 bA q2 X3
  go_upto_region 5 with fail
  rw [← hW3, ← hB3]
  clear hW3 hB3
  have HS3 := hideIt (HS.out W3)
  clear HS
  go_wp2_with (go_at_call 8; refine HS3.out.mono ?_; rintro e w4 ⟨aO_, v_, cO_, aL_, k_, cL_, aN_, R_, rfl, _, _, b4⟩; refine Hid.out ?_)
  refine hidp ?_
  obtain ⟨W5, hW5⟩ : ∃ W5, W5 = w4.alloc (.cells #[.int .i64 N, .slice aO_ v_ cO_, .slice none 0 0, .slice aL_ k_ cL_, .slice aN_ k_ k_, .int .i64 0, .int .i64 0, .int .i64 0, .int .i64 0, .int .i64 0, .int .i64 0, .int .i64 0, .slice none 0 0, .int .i64 0, .slice none 0 0] 37) := ⟨_, rfl⟩
  have bA : Below W3.heap.size W3 W5 := by rw [hW5]; exact b4.alloc b4.size _
  have HX5 := hideIt (HX3.out.up bA)
  have HB5 := hideIt (bupZ HB3.out bA)
  have hb5 := hideIt bA
  clear HS3 HX3 HB3 b4 bA
  go_upto_region 6 with fail
  rw [← hW5]
  clear hW5
  rcases HCa.out with ⟨nn, sh, _, _, hr, ef, eh⟩ | ⟨ef, eN⟩
  case inr =>
    have e1 : fl = false := Hf.out.trans ef
    have e2 : N = 0 := HN.out.trans eN
    subst e1
    subst e2
    have x0 := HX5.out.cell 0 rfl
    clear HCa HN Hf HQ
    go_wp2
    go_ret
    exact ⟨rfl, HB5.out⟩
  obtain ⟨rfl, rfl, hq⟩ := HQ.out nn sh hr eh
  have e1 : fl = true := Hf.out.trans ef
  have e2 : N = (v : Int) := by rw [HN.out, eh]; rfl
  subst e1
  subst e2
  have hq5 := hideIt (hq.up hb5.out)
  have HT := hideIt (take_new v k aO cO aL cL aN W5 hq5.out)
  have HR := hideIt (fun (u : World) => iReplyOf_any (newH v k) (nwP aO v cO aL k cL aN) 5 (by simp) u ⟨rfl, .inl rfl⟩)
  have HRt : Hid (∀ (p1 : Option Addr) (m1 c1 : Nat) (p2 : Option Addr) (m2 c2 : Nat) (p3 : Option Addr) (m3 c3 g c B : Nat) (u : World), u.ownsRow B 72 6 (.slice (some ⟨g, 0, none⟩) 1 c) 1 [.int .i64 5, .int .i64 5, .int .i64 9, .int .i64 0, .int .i64 0, .int .i64 3] → Calls Try.prog 10 #[.agg #[.int .i64 (v : Int), .slice p1 m1 c1, .slice none 0 0, .slice p2 m2 c2, .slice p3 m3 c3, .int .i64 0, .int .i64 0, .int .i64 0, .int .i64 0, .int .i64 0, .int .i64 0, .int .i64 0, .slice none 0 0, .int .i64 0, .slice (some ⟨g, 0, none⟩) 1 c], .int .i64 5] u fun e w' => e = .returned (.tuple #[.int .i64 3, .bool true]) ∧ Below u.heap.size u w') := fun p1 m1 c1 p2 m2 c2 p3 m3 c3 g c B u ho =>
    iReplyOf_any ⟨(v : Int), [], [], [], [], 0, 0, 0, 0, 0, 0, 0, [], 0, [⟨5, 5, 9, 0, 0, 3⟩]⟩ ⟨⟨p1, m1, c1⟩, nilS, ⟨p2, m2, c2⟩, ⟨p3, m3, c3⟩, nilS, ⟨some ⟨g, 0, none⟩, 1, c⟩⟩ 5 (by show 1 ≤ 1048576; omega) u (Ss_of_own (ss := [⟨5, 5, 9, 0, 0, 3⟩]) ho)
  have HBu : Hid (∀ u, Calls Try.prog 12 #[.agg #[.int .i64 (v : Int), .slice aO v cO, .slice none 0 0, .slice aL k cL, .slice aN k k, .int .i64 0, .int .i64 0, .int .i64 0, .int .i64 0, .int .i64 0, .int .i64 0, .int .i64 0, .slice none 0 0, .int .i64 0, .slice none 0 0]] u fun e v => e = .returned (.bool false) ∧ Below u.heap.size u v) := fun u => iBusy_any (newH v k) (nwP aO v cO aL k cL aN) u
  clear HCa HN Hf HQ hr ef eh hq hb5
  have x0 := HX5.out.cell 0 rfl
  have x1 := HX5.out.cell 1 rfl
  have x2 := HX5.out.cell 2 rfl
  have x3 := HX5.out.cell 3 rfl
  have x4 := HX5.out.cell 4 rfl
  have x5 := HX5.out.cell 5 rfl
  have x6 := HX5.out.cell 6 rfl
  have x7 := HX5.out.cell 7 rfl
  have x8 := HX5.out.cell 8 rfl
  have x9 := HX5.out.cell 9 rfl
  have x10 := HX5.out.cell 10 rfl
  have x11 := HX5.out.cell 11 rfl
  have x12 := HX5.out.cell 12 rfl
  have x13 := HX5.out.cell 13 rfl
  have x14 := HX5.out.cell 14 rfl
  go_wp2_with (go_at_call 9; refine HT.out.mono ?_; rintro e w6 ⟨p1, m1, c1, p2, m2, c2, p3, m3, c3, g, c, rfl, b6, o6⟩; refine Hid.out ?_)
  refine hidp ?_
  obtain ⟨W7, hW7⟩ : ∃ W7, W7 = w6.alloc (.cells #[.int .i64 (v : Int), .slice p1 m1 c1, .slice none 0 0, .slice p2 m2 c2, .slice p3 m3 c3, .int .i64 0, .int .i64 0, .int .i64 0, .int .i64 0, .int .i64 0, .int .i64 0, .int .i64 0, .slice none 0 0, .int .i64 0, .slice (some ⟨g, 0, none⟩) 1 c] 37) := ⟨_, rfl⟩
  obtain ⟨B7, hB7⟩ : ∃ B7, B7 = w6.heap.size := ⟨_, rfl⟩
  have bA : Below w6.heap.size w6 W7 := by rw [hW7]; exact belA _ _
  have Y7 : BxA W7 B7 37 #[.int .i64 (v : Int), .slice p1 m1 c1, .slice none 0 0, .slice p2 m2 c2, .slice p3 m3 c3, .int .i64 0, .int .i64 0, .int .i64 0, .int .i64 0, .int .i64 0, .int .i64 0, .int .i64 0, .slice none 0 0, .int .i64 0, .slice (some ⟨g, 0, none⟩) 1 c] := by rw [hW7, hB7]; exact BxA.new _ _ _
  have b7 : Below W5.heap.size W5 W7 := bupZ b6 bA
  have X7 := HX5.out.up b7
  have HRk := hideIt (HRt.out p1 m1 c1 p2 m2 c2 p3 m3 c3 g c _ W7 (own_up o6 bA))
  have HX7 := hideIt X7
  have HB7 := hideIt (bupZ HB5.out b7)
  have hq7 := hideIt (hq5.out.up b7)
  clear x0 x1 x2 x3 x4 x5 x6 x7 x8 x9 x10 x11 x12 x13 x14 HT HRt b6 o6 bA b7 X7 HX5 HB5 hq5
  have y0 := Y7.cell 0 rfl
  have y1 := Y7.cell 1 rfl
  have y2 := Y7.cell 2 rfl
  have y3 := Y7.cell 3 rfl
  have y4 := Y7.cell 4 rfl
  have y5 := Y7.cell 5 rfl
  have y6 := Y7.cell 6 rfl
  have y7 := Y7.cell 7 rfl
  have y8 := Y7.cell 8 rfl
  have y9 := Y7.cell 9 rfl
  have y10 := Y7.cell 10 rfl
  have y11 := Y7.cell 11 rfl
  have y12 := Y7.cell 12 rfl
  have y13 := Y7.cell 13 rfl
  have y14 := Y7.cell 14 rfl
  clear Y7
  go_upto_region 11 with fail
  rw [← hW7, ← hB7]
  clear hW7 hB7
  go_wp2_with (go_at_call 10; refine HRk.out.mono ?_; rintro e w8 ⟨rfl, b8⟩; refine Hid.out ?_)
  refine hidp ?_
  have X8 := HX7.out.up b8
  have HX8 := hideIt X8
  have HB8 := hideIt (bupZ HB7.out b8)
  have hq8 := hideIt (hq7.out.up b8)
  clear y0 y1 y2 y3 y4 y5 y6 y7 y8 y9 y10 y11 y12 y13 y14 HRk HX7 HB7 hq7 b8
  have x0 := X8.cell 0 rfl
  have x1 := X8.cell 1 rfl
  have x2 := X8.cell 2 rfl
  have x3 := X8.cell 3 rfl
  have x4 := X8.cell 4 rfl
  have x5 := X8.cell 5 rfl
  have x6 := X8.cell 6 rfl
  have x7 := X8.cell 7 rfl
  have x8 := X8.cell 8 rfl
  have x9 := X8.cell 9 rfl
  have x10 := X8.cell 10 rfl
  have x11 := X8.cell 11 rfl
  have x12 := X8.cell 12 rfl
  have x13 := X8.cell 13 rfl
  have x14 := X8.cell 14 rfl
  clear X8
  go_wp2_with (go_at_call 10; refine (HR.out _).mono ?_; rintro e w9 ⟨rfl, b9⟩; refine Hid.out ?_)
  refine hidp ?_
  have e0 : ryB (newH v k).said 5 = false := rfl
  rw [e0]
  generalize ryI (newH v k).said 5 = ri
  have X9 := HX8.out.up b9
  have HX9 := hideIt X9
  have HB9 := hideIt (bupZ HB8.out b9)
  have hq9 := hideIt (hq8.out.up b9)
  have HOk := hideIt (headOk_new v k aO cO aL cL aN w9 hq9.out)
  clear x0 x1 x2 x3 x4 x5 x6 x7 x8 x9 x10 x11 x12 x13 x14 HR HX8 HB8 hq8 b9 e0
  have x0 := X9.cell 0 rfl
  have x1 := X9.cell 1 rfl
  have x2 := X9.cell 2 rfl
  have x3 := X9.cell 3 rfl
  have x4 := X9.cell 4 rfl
  have x5 := X9.cell 5 rfl
  have x6 := X9.cell 6 rfl
  have x7 := X9.cell 7 rfl
  have x8 := X9.cell 8 rfl
  have x9 := X9.cell 9 rfl
  have x10 := X9.cell 10 rfl
  have x11 := X9.cell 11 rfl
  have x12 := X9.cell 12 rfl
  have x13 := X9.cell 13 rfl
  have x14 := X9.cell 14 rfl
  clear X9
  go_wp2_with (go_at_call 11; refine HOk.out.mono ?_; rintro e wa ⟨rfl, ba⟩; refine Hid.out ?_)
  refine hidp ?_
  have Xa := HX9.out.up ba
  have HBa := hideIt (bupZ HB9.out ba)
  clear x0 x1 x2 x3 x4 x5 x6 x7 x8 x9 x10 x11 x12 x13 x14 HOk HX9 HB9 hq9 ba
  have x0 := Xa.cell 0 rfl
  have x1 := Xa.cell 1 rfl
  have x2 := Xa.cell 2 rfl
  have x3 := Xa.cell 3 rfl
  have x4 := Xa.cell 4 rfl
  have x5 := Xa.cell 5 rfl
  have x6 := Xa.cell 6 rfl
  have x7 := Xa.cell 7 rfl
  have x8 := Xa.cell 8 rfl
  have x9 := Xa.cell 9 rfl
  have x10 := Xa.cell 10 rfl
  have x11 := Xa.cell 11 rfl
  have x12 := Xa.cell 12 rfl
  have x13 := Xa.cell 13 rfl
  have x14 := Xa.cell 14 rfl
  clear Xa
  go_wp2_with (go_at_call 12; refine (HBu.out _).mono ?_; rintro e wb ⟨rfl, bb⟩)
  go_ret
  exact ⟨rfl, bupZ HBa.out bb⟩
end Go.Proofs.Ytiidomopnmjhbaa
