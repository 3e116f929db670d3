/- The walk of FnExactShardOk. A web that comes in. An order and an answer that come in, as the walks want them. A shard that comes in. -/
import Derived.Test.YtpfkfbmghddepaaGreatKSLa10
import Derived.Test.YtpfkfbmghddepaaGreatKMem6
import Derived.WalkKit
import Derived.ProofKit
import Derived.OpenShut
import Derived.ChangeOld
import Derived.ChangeArms
import Derived.Below
import Derived.ChangeSlices
import Derived.Test.YtpfkfbmghddepaaGreatKMem
import Derived.Test.YtpfkfbmghddepaaGreatKIntsO10
import Derived.Test.YtpfkfbmghddepaaGreatKLd9
namespace Go.Proofs.YtpfkfbmghddepaaGreat
open Go.RowKit

theorem bupS {w u v : World} (h : Below w.heap.size w u) (hb : Below u.heap.size u v) : Below w.heap.size w v := h.trans (hb.mono h.size)
set_option maxRecDepth 100000 in
set_option maxHeartbeats 8000000 in
theorem fnExactShardOk.walk (id N : Int) (ls : List Ld) (n : Nat) (a : Option Addr) (c : Nat) (num : Int) (ok : Bool) (es : List EdgeV) (lb : List Int) (n1 : Nat) (a1 : Option Addr) (c1 : Nat) (n2 : Nat) (a2 : Option Addr) (c2 : Nat) (hm : n ≤ maxLen ∧ n1 ≤ maxLen ∧ n2 ≤ maxLen) (w : World)
    (h : Ls w w.heap.size a n ls) (h1 : Es w w.heap.size a1 n1 es) (h2 : Is w w.heap.size a2 n2 lb) :
    Calls Tryz.prog 9 #[shV id N a n c num ok a1 n1 c1 a2 n2 c2] w fun e w' => e = .returned (.bool true) ∧ Below w.heap.size w w' := by
  obtain ⟨W1, hW1⟩ : ∃ W1, W1 = w.alloc (.cells #[.int .i64 id, .int .i64 N, .slice a n c, .int .i64 num, .bool ok, .slice a1 n1 c1, .slice a2 n2 c2] 89) := ⟨_, rfl⟩
  have bW : Below w.heap.size w W1 := by rw [hW1]; exact (Below.refl _ _).alloc (Nat.le_refl _) _
  have X1 : Bx7 W1 w.heap.size 89 (.int .i64 id) (.int .i64 N) (.slice a n c) (.int .i64 num) (.bool ok) (.slice a1 n1 c1) (.slice a2 n2 c2) := by rw [hW1]; exact Bx7.new w 89 _ _ _ _ _ _ _
  have HS := hideIt (szShard_any id N a n c num ok a1 n1 c1 a2 n2 c2 hm.1 hm.2.1 hm.2.2 W1)
  have HB := hideIt bW
  obtain ⟨x0, x1, x2, x3, x4, x5, x6⟩ := X1.cells
  by_cases g : n + n1 + n2 ≤ 1048576
  · have d1 : decide (szS n n1 n2 < 0) = false := decide_eq_false (by unfold szS; rw [if_pos g]; omega)
    have HT := hideIt (fun u (hu : Below W1.heap.size W1 u) => toShard_any id N ls n a c num ok es lb n1 a1 c1 n2 a2 c2 (by omega) (by omega) (by omega) u (h.up (bupS bW hu)) (h1.up (bupS bW hu)) (h2.up (bupS bW hu)))
    have HDs := hideIt (fun (u : World) g g1 g2 (q1 : Ls u u.heap.size (some ⟨g, 0, none⟩) n ls) (q2 : Es u u.heap.size (some ⟨g1, 0, none⟩) n1 es) (q3 : Is u u.heap.size (some ⟨g2, 0, none⟩) n2 lb) => sShardOk_any id N ls n (some ⟨g, 0, none⟩) n num ok es lb n1 (some ⟨g1, 0, none⟩) n1 n2 (some ⟨g2, 0, none⟩) n2 (by omega) (by omega) (by omega) u q1 q2 q3)
    have HDi := hideIt (fun (u : World) g g1 g2 (q1 : Ls u u.heap.size (some ⟨g, 0, none⟩) n ls) (q2 : Es u u.heap.size (some ⟨g1, 0, none⟩) n1 es) (q3 : Is u u.heap.size (some ⟨g2, 0, none⟩) n2 lb) => iShardOk_any id N ls n (some ⟨g, 0, none⟩) n num ok es lb n1 (some ⟨g1, 0, none⟩) n1 n2 (some ⟨g2, 0, none⟩) n2 (by omega) (by omega) (by omega) u q1 q2 q3)
    generalize shB id N ls num ok es lb = fl at *
    generalize szS n n1 n2 = z at *
    have hff : (fl != fl) = false := by simp
    clear h h1 h2 bW
    go_enter Tryz.func9, Tryz.ntmps9
    go_upto_region 1 with fail
    rw [← hW1]
    clear hW1
    go_wp2_with (go_at_call 48; refine HS.out.mono ?_; rintro e w2 ⟨rfl, b2⟩; refine Hid.out ?_)
    refine (show ∀ {p : Prop}, p → Hid p from fun h => h) ?_
    clear x0 x1 x2 x3 x4 x5 x6
    obtain ⟨x0, x1, x2, x3, x4, x5, x6⟩ := (X1.up b2).cells
    have H3 := hideIt (HT.out w2 b2)
    clear HS
    go_wp2_with (go_at_call 50; refine H3.out.mono ?_; rintro e w3 ⟨g, g1, g2, rfl, q1, q2, q3, b3⟩; refine Hid.out ?_)
    refine (show ∀ {p : Prop}, p → Hid p from fun h => h) ?_
    have B3 := bupS b2 b3
    have H4 := hideIt (HDs.out w3 g g1 g2 (Ls_of_own q1) (Es_of_own q2) (Is_of_own q3))
    clear H3 q1 q2 q3 b3
    go_wp2_with (go_at_call 49; refine H4.out.mono ?_; rintro e w4 ⟨rfl, b4⟩; refine Hid.out ?_)
    refine (show ∀ {p : Prop}, p → Hid p from fun h => h) ?_
    have B4 := bupS B3 b4
    clear x0 x1 x2 x3 x4 x5 x6
    obtain ⟨x0, x1, x2, x3, x4, x5, x6⟩ := (X1.up B4).cells
    have H5 := hideIt (HT.out w4 B4)
    clear H4 b4 HDs
    go_wp2_with (go_at_call 50; refine H5.out.mono ?_; rintro e w5 ⟨g, g1, g2, rfl, q1, q2, q3, b5⟩; refine Hid.out ?_)
    refine (show ∀ {p : Prop}, p → Hid p from fun h => h) ?_
    have B5 := bupS B4 b5
    obtain ⟨W5, hW5⟩ : ∃ W5, W5 = w5.alloc (.cells #[.int .i64 id, .int .i64 N, .slice (some ⟨g, 0, none⟩) n n, .int .i64 num, .bool ok, .slice (some ⟨g1, 0, none⟩) n1 n1, .slice (some ⟨g2, 0, none⟩) n2 n2] 67) := ⟨_, rfl⟩
    have bA : Below w5.heap.size w5 W5 := by rw [hW5]; exact (Below.refl _ _).alloc (Nat.le_refl _) _
    have Y5 : Bx7 W5 w5.heap.size 67 (.int .i64 id) (.int .i64 N) (.slice (some ⟨g, 0, none⟩) n n) (.int .i64 num) (.bool ok) (.slice (some ⟨g1, 0, none⟩) n1 n1) (.slice (some ⟨g2, 0, none⟩) n2 n2) := by rw [hW5]; exact Bx7.new w5 67 _ _ _ _ _ _ _
    have BA := bupS B5 bA
    have r1 := (Ls_of_own q1).up bA
    have r2 := (Es_of_own q2).up bA
    have r3 := (Is_of_own q3).up bA
    obtain ⟨y0, y1, y2, y3, y4, y5, y6⟩ := Y5.cells
    have H6 := hideIt (HDi.out W5 g g1 g2 r1 r2 r3)
    clear H5 b5 B5 q1 q2 q3
    go_upto_region 7 with fail
    rw [← hW5]
    obtain ⟨b9, hb9⟩ : ∃ b9, b9 = w5.heap.size := ⟨_, rfl⟩
    rw [← hb9] at Y5 y0 y1 y2 y3 y4 y5 y6 ⊢
    clear hW5 hb9 bA x0 x1 x2 x3 x4 x5 x6
    go_wp2_with (go_at_call 41; refine H6.out.mono ?_; rintro e w6 ⟨rfl, b6⟩; refine Hid.out ?_)
    refine (show ∀ {p : Prop}, p → Hid p from fun h => h) ?_
    have B6 := bupS BA b6
    have D6 : Below w6.heap.size w6 w6.drew := (Below.refl _ _).drew
    have HC := hideIt (fun u (hu : Below w6.heap.size w6 u) => And.intro (Y5.up (bupS b6 hu)).cells (X1.up (bupS B6 hu)).cells)
    have hS6 := HC.out _ D6
    have H7 := hideIt (HT.out _ (bupS B6 D6))
    have HE := hideIt (fun (u : World) g' g1' g2' (hu : Below w6.heap.size w6 u) (q1 : Ls u u.heap.size (some ⟨g', 0, none⟩) n ls) (q2 : Es u u.heap.size (some ⟨g1', 0, none⟩) n1 es) (q3 : Is u u.heap.size (some ⟨g2', 0, none⟩) n2 lb) => eqShard_same id N ls n (some ⟨g, 0, none⟩) (some ⟨g', 0, none⟩) n n num ok es lb n1 (some ⟨g1, 0, none⟩) (some ⟨g1', 0, none⟩) n1 n1 n2 (some ⟨g2, 0, none⟩) (some ⟨g2', 0, none⟩) n2 n2 (by omega) (by omega) (by omega) u (r1.up (bupS b6 hu)) q1 (r2.up (bupS b6 hu)) q2 (r3.up (bupS b6 hu)) q3)
    clear H6 y0 y1 y2 y3 y4 y5 y6
    go_upto_region 10 with fail
    go_region_held3 (fun u => (u.cell? ⟨b9, 0, none⟩ = some (.int .i64 id) ∧ u.cell? ⟨b9, 1, none⟩ = some (.int .i64 N) ∧ u.cell? ⟨b9, 2, none⟩ = some (.slice (some ⟨g, 0, none⟩) n n) ∧ u.cell? ⟨b9, 3, none⟩ = some (.int .i64 num) ∧ u.cell? ⟨b9, 4, none⟩ = some (.bool ok) ∧ u.cell? ⟨b9, 5, none⟩ = some (.slice (some ⟨g1, 0, none⟩) n1 n1) ∧ u.cell? ⟨b9, 6, none⟩ = some (.slice (some ⟨g2, 0, none⟩) n2 n2)) ∧ (u.cell? ⟨w.heap.size, 0, none⟩ = some (.int .i64 id) ∧ u.cell? ⟨w.heap.size, 1, none⟩ = some (.int .i64 N) ∧ u.cell? ⟨w.heap.size, 2, none⟩ = some (.slice a n c) ∧ u.cell? ⟨w.heap.size, 3, none⟩ = some (.int .i64 num) ∧ u.cell? ⟨w.heap.size, 4, none⟩ = some (.bool ok) ∧ u.cell? ⟨w.heap.size, 5, none⟩ = some (.slice a1 n1 c1) ∧ u.cell? ⟨w.heap.size, 6, none⟩ = some (.slice a2 n2 c2)))
      (first | assumption)
      (first
      | (go_at_call 50; refine H7.out.mono ?_; rintro e w7 ⟨g', g1', g2', rfl, q1, q2, q3, b7⟩; have B7 := bupS D6 b7; have hS7 := HC.out _ B7)
      | (go_at_call 51; refine (HE.out _ g' g1' g2' B7 (Ls_of_own q1) (Es_of_own q2) (Is_of_own q3)).mono ?_; rintro e w8 ⟨rfl, b8⟩; have B8 := bupS B7 b8; have hS8 := HC.out _ B8))
    have BF := bupS HB.out (bupS B6 B8)
    clear hS6 hS7 hS8 HC H7 HE
    go_wp2
    go_ret
    exact ⟨rfl, BF⟩
  · have d1 : decide (szS n n1 n2 < 0) = true := decide_eq_true (by unfold szS; rw [if_neg g]; omega)
    generalize szS n n1 n2 = z at *
    clear h h1 h2 bW
    go_enter Tryz.func9, Tryz.ntmps9
    go_upto_region 1 with fail
    rw [← hW1]
    clear hW1
    go_wp2_with (go_at_call 48; refine HS.out.mono ?_; rintro e w2 ⟨rfl, b2⟩)
    go_ret
    exact ⟨rfl, bupS HB.out b2⟩
end Go.Proofs.YtpfkfbmghddepaaGreat
namespace Go.Proofs.YtpfkfbmghddepaaGreat
open Go.RowKit Go.ChangeShapes Go.WideShapes Go.ChangeAt

theorem two7 {α : Type} {l : List α} (h : l.length = 2) : ∃ a b, l = [a, b] := by
  match l, h with
  | [a, b], _ => exact ⟨a, b, rfl⟩
theorem four9 {α : Type} {l : List α} (h : l.length = 4) : ∃ a b c d, l = [a, b, c, d] := by
  match l, h with
  | [a, b, c, d], _ => exact ⟨a, b, c, d, rfl⟩
theorem open_ledge1 {H : Type} {enc : TypeId × Value → H} {W : World} {fuel : Nat} {cs : List Value} {y : DataW H × List MemPlace}
    (h : DataW.trod enc Tryz.prog W 0 (fun _ => true) true fuel 244 cs = some y) : ∃ x : Ld, cs = [.int .i64 x.a, .int .i64 x.b, .int .i64 x.l, .bool x.t] := by
  obtain ⟨xs, n, _, _, hl, hlen, hf⟩ := DataW.trod_struct Tryz.underlying244 h
  rw [show Tryz.prog.cellsOf 244 = 4 by kernel_rfl] at hl
  obtain ⟨c0, c1, c2, c3, rfl⟩ := four9 hl
  have h0 : DataW.trod enc Tryz.prog W 0 (fun _ => true) true n 3 (([c0, c1, c2, c3].drop 0).take (Tryz.prog.cellsOf 3)) = xs[0]? := hf 0 _ rfl
  have h1 : DataW.trod enc Tryz.prog W 0 (fun _ => true) true n 3 (([c0, c1, c2, c3].drop 1).take (Tryz.prog.cellsOf 3)) = xs[1]? := hf 1 _ rfl
  have h2 : DataW.trod enc Tryz.prog W 0 (fun _ => true) true n 3 (([c0, c1, c2, c3].drop 2).take (Tryz.prog.cellsOf 3)) = xs[2]? := hf 2 _ rfl
  have h3 : DataW.trod enc Tryz.prog W 0 (fun _ => true) true n 4 (([c0, c1, c2, c3].drop 3).take (Tryz.prog.cellsOf 4)) = xs[3]? := hf 3 _ rfl
  rw [show Tryz.prog.cellsOf 3 = 1 by kernel_rfl] at h0 h1 h2
  rw [show Tryz.prog.cellsOf 4 = 1 by kernel_rfl] at h3
  have g : ∀ i, i < 4 → ∃ z, xs[i]? = some z := fun i hi => ⟨xs[i]'(by simp at hlen; omega), List.getElem?_eq_getElem _⟩
  obtain ⟨z0, e0⟩ := g 0 (by omega)
  obtain ⟨z1, e1⟩ := g 1 (by omega)
  obtain ⟨z2, e2⟩ := g 2 (by omega)
  obtain ⟨z3, e3⟩ := g 3 (by omega)
  rw [e0] at h0
  rw [e1] at h1
  rw [e2] at h2
  rw [e3] at h3
  obtain ⟨k0, hk0, _⟩ := DataW.trod_int Tryz.underlying3 h0
  obtain ⟨k1, hk1, _⟩ := DataW.trod_int Tryz.underlying3 h1
  obtain ⟨k2, hk2, _⟩ := DataW.trod_int Tryz.underlying3 h2
  obtain ⟨k3, hk3, _⟩ := DataW.trod_bool Tryz.underlying4 h3
  simp at hk0 hk1 hk2 hk3
  subst hk0 hk1 hk2 hk3
  exact ⟨⟨k0, k1, k2, k3⟩, rfl⟩
theorem open_ledgeS {H : Type} {enc : TypeId × Value → H} {W : World} {a : Option Addr} {len cap fuel : Nat} {x : DataW H × List MemPlace}
    (h : DataW.trod enc Tryz.prog W 0 (fun _ => true) true fuel 82 [.slice a len cap] = some x) : len ≤ maxLen ∧ ∃ ls : List Ld, Ls W W.heap.size a len ls := by
  rcases DataW.trod_slice Tryz.underlying82 h with ⟨hcs, _⟩ | ⟨ad, l, c, elems, rest, n, _, hcs, _, _, hlc, hm, hel, hei, _, _⟩
  · simp at hcs
    obtain ⟨rfl, rfl, rfl⟩ := hcs
    exact ⟨by unfold maxLen; omega, [], ⟨rfl, .inl rfl⟩⟩
  · simp at hcs
    obtain ⟨rfl, rfl, rfl⟩ := hcs
    refine ⟨by omega, ?_⟩
    have each : ∀ i, i < len → ∃ x : Ld, W.cell? ((ad.add (i * 4)).add 0) = some (.int .i64 x.a) ∧ W.cell? ((ad.add (i * 4)).add 1) = some (.int .i64 x.b) ∧ W.cell? ((ad.add (i * 4)).add 2) = some (.int .i64 x.l) ∧ W.cell? ((ad.add (i * 4)).add 3) = some (.bool x.t) := by
      intro i hi
      have h1 := hei i hi
      obtain ⟨y, hy⟩ : ∃ y, elems[i]? = some y := ⟨elems[i]'(by omega), List.getElem?_eq_getElem _⟩
      rw [hy, Option.bind_eq_some_iff] at h1
      obtain ⟨cs', hc, ht⟩ := h1
      obtain ⟨x, rfl⟩ := open_ledge1 ht
      rw [show Tryz.prog.cellsOf 244 = 4 by kernel_rfl] at hc
      have hcell := (World.cells?_some hc).2.2
      exact ⟨x, by simpa using hcell 0 (by omega), by simpa using hcell 1 (by omega), by simpa using hcell 2 (by omega), by simpa using hcell 3 (by omega)⟩
    by_cases h0 : len = 0
    · subst h0
      exact ⟨[], ⟨rfl, .inl rfl⟩⟩
    · obtain ⟨f0, hc0, _⟩ := each 0 (by omega)
      obtain ⟨b, off, spot⟩ := ad
      have hspot : spot = none := by simpa [Addr.add] using World.cell?_spot hc0
      subst hspot
      have hb : b < W.heap.size := by
        have := World.block_lt_of_cell? W _ hc0
        simpa [Addr.add] using this
      obtain ⟨F, hF⟩ := Classical.axiomOfChoice (fun i : Fin len => each i.1 i.2)
      refine ⟨List.ofFn F, ⟨by simp, .inr ⟨b, off, rfl, hb, fun j f hf => ?_⟩⟩⟩
      obtain ⟨hj, rfl⟩ := List.getElem?_eq_some_iff.1 hf
      have hj' : j < len := by simpa using hj
      obtain ⟨c0, c1, c2, c3⟩ := hF ⟨j, hj'⟩
      rw [add_plain, add_plain] at c0 c1 c2 c3
      simp only [List.getElem_ofFn]
      exact ⟨c0, c1, c2, c3⟩
set_option maxRecDepth 100000 in
/-- a web that comes in -/
theorem open_web {H : Type} {enc : TypeId × Value → H} {W : World} {r : Reach} {base : Nat} {v : Value} {d : DataW H} {p : List MemPlace}
    (hv : Value.okWide Tryz.prog W r base 84 v) (h : DataW.Trod enc Tryz.prog W 0 (fun _ => true) true 84 v d p) :
    ∃ (N : Int) (a : Option Addr) (n c : Nat) (ls : List Ld), v = .agg #[.int .i64 N, .slice a n c] ∧ (Lit.int .i64 N).wf = true ∧ n ≤ maxLen ∧ Ls W W.heap.size a n ls := by
  obtain ⟨cs, rfl, hcs⟩ := okWide_struct Tryz.underlying84 hv
  obtain ⟨fuel, hf⟩ := h
  obtain ⟨xs, n, _, _, hl, hlen, hfi⟩ := DataW.trod_struct Tryz.underlying84 hf
  rw [show Tryz.prog.cellsOf 84 = 2 by kernel_rfl] at hcs hl
  obtain ⟨l⟩ := cs
  obtain ⟨c0, c1, rfl⟩ := two7 (by simpa using hcs : l.length = 2)
  have ec : (Value.agg (List.toArray [c0, c1])).cells.toList = [c0, c1] := by simp [Value.cells]
  rw [ec] at hfi
  have h0 : DataW.trod enc Tryz.prog W 0 (fun _ => true) true n 3 (([c0, c1].drop 0).take (Tryz.prog.cellsOf 3)) = xs[0]? := hfi 0 _ rfl
  have h1 : DataW.trod enc Tryz.prog W 0 (fun _ => true) true n 82 (([c0, c1].drop 1).take (Tryz.prog.cellsOf 82)) = xs[1]? := hfi 1 _ rfl
  rw [show Tryz.prog.cellsOf 3 = 1 by kernel_rfl] at h0
  rw [show Tryz.prog.cellsOf 82 = 1 by kernel_rfl] at h1
  have g : ∀ i, i < 2 → ∃ z, xs[i]? = some z := fun i hi => ⟨xs[i]'(by simp at hlen; omega), List.getElem?_eq_getElem _⟩
  obtain ⟨z0, e0⟩ := g 0 (by omega)
  obtain ⟨z1, e1⟩ := g 1 (by omega)
  rw [e0] at h0
  rw [e1] at h1
  obtain ⟨k0, hk0, _, w0⟩ := DataW.trod_int Tryz.underlying3 h0
  simp at hk0
  subst hk0
  have h1' : DataW.trod enc Tryz.prog W 0 (fun _ => true) true n 82 [c1] = some z1 := by simpa using h1
  rcases DataW.trod_slice Tryz.underlying82 h1' with ⟨hx, _⟩ | ⟨ad, l, c, _, _, _, _, hx, _⟩
  · simp at hx
    subst hx
    obtain ⟨q1, fs, q2⟩ := open_ledgeS h1'
    exact ⟨k0, _, _, _, fs, rfl, w0, q1, q2⟩
  · simp at hx
    subst hx
    obtain ⟨q1, fs, q2⟩ := open_ledgeS h1'
    exact ⟨k0, _, _, _, fs, rfl, w0, q1, q2⟩
theorem open_edge1 {H : Type} {enc : TypeId × Value → H} {W : World} {fuel : Nat} {cs : List Value} {y : DataW H × List MemPlace}
    (h : DataW.trod enc Tryz.prog W 0 (fun _ => true) true fuel 212 cs = some y) : ∃ f : Int × Int, cs = [.int .i64 f.1, .int .i64 f.2] ∧ ((Lit.int .i64 f.1).wf = true ∧ (Lit.int .i64 f.2).wf = true) := by
  obtain ⟨xs, n, _, _, hl, hlen, hf⟩ := DataW.trod_struct Tryz.underlying212 h
  rw [show Tryz.prog.cellsOf 212 = 2 by kernel_rfl] at hl
  obtain ⟨c0, c1, rfl⟩ := two7 hl
  have h0 : DataW.trod enc Tryz.prog W 0 (fun _ => true) true n 3 (([c0, c1].drop 0).take (Tryz.prog.cellsOf 3)) = xs[0]? := hf 0 _ rfl
  have h1 : DataW.trod enc Tryz.prog W 0 (fun _ => true) true n 3 (([c0, c1].drop 1).take (Tryz.prog.cellsOf 3)) = xs[1]? := hf 1 _ rfl
  rw [show Tryz.prog.cellsOf 3 = 1 by kernel_rfl] at h0 h1
  have g : ∀ i, i < 2 → ∃ z, xs[i]? = some z := fun i hi => ⟨xs[i]'(by simp at hlen; omega), List.getElem?_eq_getElem _⟩
  obtain ⟨z0, e0⟩ := g 0 (by omega)
  obtain ⟨z1, e1⟩ := g 1 (by omega)
  rw [e0] at h0
  rw [e1] at h1
  obtain ⟨k0, hk0, _, w0⟩ := DataW.trod_int Tryz.underlying3 h0
  obtain ⟨k1, hk1, _, w1⟩ := DataW.trod_int Tryz.underlying3 h1
  simp at hk0 hk1
  subst hk0 hk1
  exact ⟨⟨k0, k1⟩, rfl, w0, w1⟩
set_option maxRecDepth 100000 in
/-- an edge that comes in -/
theorem open_edge {H : Type} {enc : TypeId × Value → H} {W : World} {r : Reach} {base : Nat} {v : Value} {d : DataW H} {p : List MemPlace}
    (hv : Value.okWide Tryz.prog W r base 212 v) (h : DataW.Trod enc Tryz.prog W 0 (fun _ => true) true 212 v d p) :
    ∃ f : Int × Int, v = .agg #[.int .i64 f.1, .int .i64 f.2] ∧ ((Lit.int .i64 f.1).wf = true ∧ (Lit.int .i64 f.2).wf = true) := by
  obtain ⟨cs, rfl, hcs⟩ := okWide_struct Tryz.underlying212 hv
  obtain ⟨fuel, hf⟩ := h
  obtain ⟨f, hcs2, hft⟩ := open_edge1 hf
  refine ⟨f, ?_, hft⟩
  have : (Value.agg cs).cells.toList = [.int .i64 f.1, .int .i64 f.2] := hcs2
  obtain ⟨l⟩ := cs
  simp [Value.cells] at this
  rw [this]
end Go.Proofs.YtpfkfbmghddepaaGreat
namespace Go.Proofs.YtpfkfbmghddepaaGreat.O
open Go.ChangeShapes Go.WideShapes Go.ChangeAt Go.RowKit

theorem four10 {α : Type} {l : List α} (h : l.length = 4) : ∃ a b c d, l = [a, b, c, d] := by
  match l, h with
  | [a, b, c, d], _ => exact ⟨a, b, c, d, rfl⟩

theorem slice1 {H : Type} {enc : TypeId × Value → H} {W : World} {fuel : Nat} {t e : TypeId} {cs : List Value} {x : DataW H × List MemPlace} (hu : Tryz.prog.underlying t = some (.slice e))
    (h : DataW.trod enc Tryz.prog W 0 (fun _ => true) true fuel t cs = some x) : ∃ a n c, cs = [.slice a n c] := by
  rcases DataW.trod_slice hu h with ⟨hcs, _⟩ | ⟨ad, l, c, _, _, _, _, hcs, _⟩
  · exact ⟨_, _, _, hcs⟩
  · exact ⟨_, _, _, hcs⟩

theorem open_ints10 {H : Type} {enc : TypeId × Value → H} {W : World} {fuel : Nat} {a : Option Addr} {len cap : Nat} {y : DataW H × List MemPlace}
    (hf : DataW.trod enc Tryz.prog W 0 (fun _ => true) true fuel 44 [.slice a len cap] = some y) : len ≤ maxLen ∧ ∃ ls : List Int, Is W W.heap.size a len ls := by
  obtain ⟨d, p⟩ := y
  rcases open_ints Tryz.underlying44 Tryz.underlying3 (by kernel_rfl) hf with ⟨hcs, _⟩ | ⟨x, l, c, zs, hcs, _, hl, hm, hz, _, hcell, hwz⟩
  · simp at hcs
    obtain ⟨rfl, rfl, rfl⟩ := hcs
    exact ⟨by unfold maxLen; omega, [], ⟨rfl, .inl rfl⟩⟩
  · simp at hcs
    obtain ⟨rfl, rfl, rfl⟩ := hcs
    have hzl : zs.length = cap := by simpa using hz
    by_cases h0 : len = 0
    · subst h0
      exact ⟨by unfold maxLen; omega, [], ⟨rfl, .inl rfl⟩⟩
    · obtain ⟨b, off, rfl, hc⟩ := ints_at hcell (by omega)
      have hb : b < W.heap.size := World.block_lt_of_cell? W _ (hc 0 (by omega))
      refine ⟨by omega, zs.take len, ⟨by rw [List.length_take]; omega, .inr ⟨b, off, rfl, hb, fun j x hx => ?_⟩⟩⟩
      have hj : j < len := by have := (List.getElem?_eq_some_iff.1 hx).1; rw [List.length_take] at this; omega
      rw [List.getElem?_take_of_lt hj] at hx
      rw [hc j (by omega), List.getD_eq_getElem?_getD, hx]
      rfl

set_option maxRecDepth 100000 in
/-- an order that comes in -/
theorem open_order {H : Type} {enc : TypeId × Value → H} {W : World} {r : Reach} {base : Nat} {v : Value} {d : DataW H} {p : List MemPlace}
    (hv : Value.okWide Tryz.prog W r base 95 v) (h : DataW.Trod enc Tryz.prog W 0 (fun _ => true) true 95 v d p) :
    ∃ (num op x : Int) (a : Option Addr) (n c : Nat) (fs : List EdgeV), v = .agg #[.int .i64 num, .int .i64 op, .slice a n c, .int .i64 x] ∧ n ≤ maxLen ∧ Es W W.heap.size a n fs := by
  obtain ⟨cs, rfl, hcs⟩ := okWide_struct Tryz.underlying95 hv
  obtain ⟨fuel, hf⟩ := h
  obtain ⟨xs, n, _, _, hl, hlen, hfi⟩ := DataW.trod_struct Tryz.underlying95 hf
  rw [show Tryz.prog.cellsOf 95 = 4 by kernel_rfl] at hcs hl
  obtain ⟨l⟩ := cs
  obtain ⟨c0, c1, c2, c3, rfl⟩ := four10 (by simpa using hcs : l.length = 4)
  have ec : (Value.agg (List.toArray [c0, c1, c2, c3])).cells.toList = [c0, c1, c2, c3] := by simp [Value.cells]
  rw [ec] at hfi
  have h0 : DataW.trod enc Tryz.prog W 0 (fun _ => true) true n 3 (([c0, c1, c2, c3].drop 0).take (Tryz.prog.cellsOf 3)) = xs[0]? := hfi 0 _ rfl
  have h1 : DataW.trod enc Tryz.prog W 0 (fun _ => true) true n 3 (([c0, c1, c2, c3].drop 1).take (Tryz.prog.cellsOf 3)) = xs[1]? := hfi 1 _ rfl
  have h2 : DataW.trod enc Tryz.prog W 0 (fun _ => true) true n 85 (([c0, c1, c2, c3].drop 2).take (Tryz.prog.cellsOf 85)) = xs[2]? := hfi 2 _ rfl
  have h3 : DataW.trod enc Tryz.prog W 0 (fun _ => true) true n 3 (([c0, c1, c2, c3].drop 3).take (Tryz.prog.cellsOf 3)) = xs[3]? := hfi 3 _ rfl
  rw [cells3] at h0 h1 h3
  rw [show Tryz.prog.cellsOf 85 = 1 by kernel_rfl] at h2
  have g : ∀ i, i < 4 → ∃ z, xs[i]? = some z := fun i hi => ⟨xs[i]'(by simp at hlen; omega), List.getElem?_eq_getElem _⟩
  obtain ⟨z0, e0⟩ := g 0 (by omega)
  obtain ⟨z1, e1⟩ := g 1 (by omega)
  obtain ⟨z2, e2⟩ := g 2 (by omega)
  obtain ⟨z3, e3⟩ := g 3 (by omega)
  rw [e0] at h0
  rw [e1] at h1
  rw [e2] at h2
  rw [e3] at h3
  obtain ⟨k0, hk0, _⟩ := DataW.trod_int Tryz.underlying3 h0
  obtain ⟨k1, hk1, _⟩ := DataW.trod_int Tryz.underlying3 h1
  obtain ⟨k3, hk3, _⟩ := DataW.trod_int Tryz.underlying3 h3
  simp at hk0 hk1 hk3
  subst hk0 hk1 hk3
  have h2' : DataW.trod enc Tryz.prog W 0 (fun _ => true) true n 85 [c2] = some z2 := by simpa using h2
  obtain ⟨a, m, c, hx⟩ := slice1 Tryz.underlying85 h2'
  simp at hx
  subst hx
  obtain ⟨q1, fs, q2, _⟩ := open_edgeS h2'
  exact ⟨k0, k1, k3, a, m, c, fs, rfl, q1, q2⟩

set_option maxRecDepth 100000 in
/-- an answer that comes in -/
theorem open_answer {H : Type} {enc : TypeId × Value → H} {W : World} {r : Reach} {base : Nat} {v : Value} {d : DataW H} {p : List MemPlace}
    (hv : Value.okWide Tryz.prog W r base 87 v) (h : DataW.Trod enc Tryz.prog W 0 (fun _ => true) true 87 v d p) :
    ∃ (num : Int) (ok : Bool) (a : Option Addr) (n c : Nat) (fs : List EdgeV) (a' : Option Addr) (n' c' : Nat) (ls : List Int), v = .agg #[.int .i64 num, .bool ok, .slice a n c, .slice a' n' c'] ∧ n ≤ maxLen ∧ n' ≤ maxLen ∧ Es W W.heap.size a n fs ∧ Is W W.heap.size a' n' ls := by
  obtain ⟨cs, rfl, hcs⟩ := okWide_struct Tryz.underlying87 hv
  obtain ⟨fuel, hf⟩ := h
  obtain ⟨xs, n, _, _, hl, hlen, hfi⟩ := DataW.trod_struct Tryz.underlying87 hf
  rw [show Tryz.prog.cellsOf 87 = 4 by kernel_rfl] at hcs hl
  obtain ⟨l⟩ := cs
  obtain ⟨c0, c1, c2, c3, rfl⟩ := four10 (by simpa using hcs : l.length = 4)
  have ec : (Value.agg (List.toArray [c0, c1, c2, c3])).cells.toList = [c0, c1, c2, c3] := by simp [Value.cells]
  rw [ec] at hfi
  have h0 : DataW.trod enc Tryz.prog W 0 (fun _ => true) true n 3 (([c0, c1, c2, c3].drop 0).take (Tryz.prog.cellsOf 3)) = xs[0]? := hfi 0 _ rfl
  have h1 : DataW.trod enc Tryz.prog W 0 (fun _ => true) true n 4 (([c0, c1, c2, c3].drop 1).take (Tryz.prog.cellsOf 4)) = xs[1]? := hfi 1 _ rfl
  have h2 : DataW.trod enc Tryz.prog W 0 (fun _ => true) true n 85 (([c0, c1, c2, c3].drop 2).take (Tryz.prog.cellsOf 85)) = xs[2]? := hfi 2 _ rfl
  have h3 : DataW.trod enc Tryz.prog W 0 (fun _ => true) true n 44 (([c0, c1, c2, c3].drop 3).take (Tryz.prog.cellsOf 44)) = xs[3]? := hfi 3 _ rfl
  rw [cells3] at h0
  rw [show Tryz.prog.cellsOf 4 = 1 by kernel_rfl] at h1
  rw [show Tryz.prog.cellsOf 85 = 1 by kernel_rfl] at h2
  rw [show Tryz.prog.cellsOf 44 = 1 by kernel_rfl] at h3
  have g : ∀ i, i < 4 → ∃ z, xs[i]? = some z := fun i hi => ⟨xs[i]'(by simp at hlen; omega), List.getElem?_eq_getElem _⟩
  obtain ⟨z0, e0⟩ := g 0 (by omega)
  obtain ⟨z1, e1⟩ := g 1 (by omega)
  obtain ⟨z2, e2⟩ := g 2 (by omega)
  obtain ⟨z3, e3⟩ := g 3 (by omega)
  rw [e0] at h0
  rw [e1] at h1
  rw [e2] at h2
  rw [e3] at h3
  obtain ⟨k0, hk0, _⟩ := DataW.trod_int Tryz.underlying3 h0
  obtain ⟨k1, hk1, _⟩ := DataW.trod_bool Tryz.underlying4 h1
  simp at hk0 hk1
  subst hk0 hk1
  have h2' : DataW.trod enc Tryz.prog W 0 (fun _ => true) true n 85 [c2] = some z2 := by simpa using h2
  have h3' : DataW.trod enc Tryz.prog W 0 (fun _ => true) true n 44 [c3] = some z3 := by simpa using h3
  obtain ⟨a, m, c, hx⟩ := slice1 Tryz.underlying85 h2'
  obtain ⟨a', m', c', hx'⟩ := slice1 Tryz.underlying44 h3'
  simp at hx hx'
  subst hx hx'
  obtain ⟨q1, fs, q2, _⟩ := open_edgeS h2'
  obtain ⟨q3, ls, q4⟩ := open_ints10 h3'
  exact ⟨k0, k1, a, m, c, fs, a', m', c', ls, rfl, q1, q3, q2, q4⟩
end Go.Proofs.YtpfkfbmghddepaaGreat.O
namespace Go.Proofs.YtpfkfbmghddepaaGreat
open Go.RowKit Go.ChangeShapes Go.WideShapes Go.ChangeAt

theorem seven10 {α : Type} {l : List α} (h : l.length = 7) : ∃ a b c d e f g, l = [a, b, c, d, e, f, g] := by
  match l, h with
  | [a, b, c, d, e, f, g], _ => exact ⟨a, b, c, d, e, f, g, rfl⟩
set_option maxRecDepth 100000 in
theorem trod_web {H : Type} {enc : TypeId × Value → H} {W : World} {fuel : Nat} {c0 c1 : Value} {y : DataW H × List MemPlace}
    (h : DataW.trod enc Tryz.prog W 0 (fun _ => true) true fuel 84 [c0, c1] = some y) : ∃ (N : Int) (a : Option Addr) (n c : Nat) (ls : List Ld), c0 = .int .i64 N ∧ c1 = .slice a n c ∧ n ≤ maxLen ∧ Ls W W.heap.size a n ls := by
  obtain ⟨xs, n, _, _, hl, hlen, hfi⟩ := DataW.trod_struct Tryz.underlying84 h
  have h0 : DataW.trod enc Tryz.prog W 0 (fun _ => true) true n 3 (([c0, c1].drop 0).take (Tryz.prog.cellsOf 3)) = xs[0]? := hfi 0 _ rfl
  have h1 : DataW.trod enc Tryz.prog W 0 (fun _ => true) true n 82 (([c0, c1].drop 1).take (Tryz.prog.cellsOf 82)) = xs[1]? := hfi 1 _ rfl
  rw [show Tryz.prog.cellsOf 3 = 1 by kernel_rfl] at h0
  rw [show Tryz.prog.cellsOf 82 = 1 by kernel_rfl] at h1
  have g : ∀ i, i < 2 → ∃ z, xs[i]? = some z := fun i hi => ⟨xs[i]'(by simp at hlen; omega), List.getElem?_eq_getElem _⟩
  obtain ⟨z0, e0⟩ := g 0 (by omega)
  obtain ⟨z1, e1⟩ := g 1 (by omega)
  rw [e0] at h0
  rw [e1] at h1
  obtain ⟨k0, hk0, _, w0⟩ := DataW.trod_int Tryz.underlying3 h0
  simp at hk0
  subst hk0
  have h1' : DataW.trod enc Tryz.prog W 0 (fun _ => true) true n 82 [c1] = some z1 := by simpa using h1
  obtain ⟨a, m, c, hx⟩ := O.slice1 Tryz.underlying82 h1'
  simp at hx
  subst hx
  obtain ⟨q1, ls, q2⟩ := open_ledgeS h1'
  exact ⟨k0, a, m, c, ls, rfl, rfl, q1, q2⟩
set_option maxRecDepth 100000 in
theorem trod_answer {H : Type} {enc : TypeId × Value → H} {W : World} {fuel : Nat} {c0 c1 c2 c3 : Value} {y : DataW H × List MemPlace}
    (h : DataW.trod enc Tryz.prog W 0 (fun _ => true) true fuel 87 [c0, c1, c2, c3] = some y) : ∃ (num : Int) (ok : Bool) (a : Option Addr) (n c : Nat) (fs : List EdgeV) (a' : Option Addr) (n' c' : Nat) (ls : List Int), (c0 = .int .i64 num ∧ c1 = .bool ok ∧ c2 = .slice a n c ∧ c3 = .slice a' n' c') ∧ n ≤ maxLen ∧ n' ≤ maxLen ∧ Es W W.heap.size a n fs ∧ Is W W.heap.size a' n' ls := by
  obtain ⟨xs, n, _, _, hl, hlen, hfi⟩ := DataW.trod_struct Tryz.underlying87 h
  have h0 : DataW.trod enc Tryz.prog W 0 (fun _ => true) true n 3 (([c0, c1, c2, c3].drop 0).take (Tryz.prog.cellsOf 3)) = xs[0]? := hfi 0 _ rfl
  have h1 : DataW.trod enc Tryz.prog W 0 (fun _ => true) true n 4 (([c0, c1, c2, c3].drop 1).take (Tryz.prog.cellsOf 4)) = xs[1]? := hfi 1 _ rfl
  have h2 : DataW.trod enc Tryz.prog W 0 (fun _ => true) true n 85 (([c0, c1, c2, c3].drop 2).take (Tryz.prog.cellsOf 85)) = xs[2]? := hfi 2 _ rfl
  have h3 : DataW.trod enc Tryz.prog W 0 (fun _ => true) true n 44 (([c0, c1, c2, c3].drop 3).take (Tryz.prog.cellsOf 44)) = xs[3]? := hfi 3 _ rfl
  rw [show Tryz.prog.cellsOf 3 = 1 by kernel_rfl] at h0
  rw [show Tryz.prog.cellsOf 4 = 1 by kernel_rfl] at h1
  rw [show Tryz.prog.cellsOf 85 = 1 by kernel_rfl] at h2
  rw [show Tryz.prog.cellsOf 44 = 1 by kernel_rfl] at h3
  have g : ∀ i, i < 4 → ∃ z, xs[i]? = some z := fun i hi => ⟨xs[i]'(by simp at hlen; omega), List.getElem?_eq_getElem _⟩
  obtain ⟨z0, e0⟩ := g 0 (by omega)
  obtain ⟨z1, e1⟩ := g 1 (by omega)
  obtain ⟨z2, e2⟩ := g 2 (by omega)
  obtain ⟨z3, e3⟩ := g 3 (by omega)
  rw [e0] at h0
  rw [e1] at h1
  rw [e2] at h2
  rw [e3] at h3
  obtain ⟨k0, hk0, _⟩ := DataW.trod_int Tryz.underlying3 h0
  obtain ⟨k1, hk1, _⟩ := DataW.trod_bool Tryz.underlying4 h1
  simp at hk0 hk1
  subst hk0 hk1
  have h2' : DataW.trod enc Tryz.prog W 0 (fun _ => true) true n 85 [c2] = some z2 := by simpa using h2
  have h3' : DataW.trod enc Tryz.prog W 0 (fun _ => true) true n 44 [c3] = some z3 := by simpa using h3
  obtain ⟨a, m, c, hx⟩ := O.slice1 Tryz.underlying85 h2'
  obtain ⟨a', m', c', hx'⟩ := O.slice1 Tryz.underlying44 h3'
  simp at hx hx'
  subst hx hx'
  obtain ⟨q1, fs, q2, _⟩ := O.open_edgeS h2'
  obtain ⟨q3, ls, q4⟩ := O.open_ints10 h3'
  exact ⟨k0, k1, a, m, c, fs, a', m', c', ls, ⟨rfl, rfl, rfl, rfl⟩, q1, q3, q2, q4⟩
set_option maxRecDepth 100000 in
theorem open_shard {H : Type} {enc : TypeId × Value → H} {W : World} {r : Reach} {base : Nat} {v : Value} {d : DataW H} {p : List MemPlace}
    (hv : Value.okWide Tryz.prog W r base 89 v) (h : DataW.Trod enc Tryz.prog W 0 (fun _ => true) true 89 v d p) :
    ∃ (id N : Int) (a : Option Addr) (n c : Nat) (ls : List Ld) (num : Int) (ok : Bool) (a1 : Option Addr) (n1 c1 : Nat) (es : List EdgeV) (a2 : Option Addr) (n2 c2 : Nat) (lb : List Int), v = .agg #[.int .i64 id, .int .i64 N, .slice a n c, .int .i64 num, .bool ok, .slice a1 n1 c1, .slice a2 n2 c2] ∧ (n ≤ maxLen ∧ n1 ≤ maxLen ∧ n2 ≤ maxLen) ∧ Ls W W.heap.size a n ls ∧ Es W W.heap.size a1 n1 es ∧ Is W W.heap.size a2 n2 lb := by
  obtain ⟨cs, rfl, hcs⟩ := okWide_struct Tryz.underlying89 hv
  obtain ⟨fuel, hf⟩ := h
  obtain ⟨xs, n, _, _, hl, hlen, hfi⟩ := DataW.trod_struct Tryz.underlying89 hf
  rw [show Tryz.prog.cellsOf 89 = 7 by kernel_rfl] at hcs hl
  obtain ⟨l⟩ := cs
  obtain ⟨c0, c1, c2, c3, c4, c5, c6, rfl⟩ := seven10 (by simpa using hcs : l.length = 7)
  have ec : (Value.agg (List.toArray [c0, c1, c2, c3, c4, c5, c6])).cells.toList = [c0, c1, c2, c3, c4, c5, c6] := by simp [Value.cells]
  rw [ec] at hfi
  have h0 : DataW.trod enc Tryz.prog W 0 (fun _ => true) true n 3 (([c0, c1, c2, c3, c4, c5, c6].drop 0).take (Tryz.prog.cellsOf 3)) = xs[0]? := hfi 0 _ rfl
  have h1 : DataW.trod enc Tryz.prog W 0 (fun _ => true) true n 84 (([c0, c1, c2, c3, c4, c5, c6].drop 1).take (Tryz.prog.cellsOf 84)) = xs[1]? := hfi 1 _ rfl
  have h2 : DataW.trod enc Tryz.prog W 0 (fun _ => true) true n 87 (([c0, c1, c2, c3, c4, c5, c6].drop 3).take (Tryz.prog.cellsOf 87)) = xs[2]? := hfi 2 _ rfl
  rw [show Tryz.prog.cellsOf 3 = 1 by kernel_rfl] at h0
  rw [show Tryz.prog.cellsOf 84 = 2 by kernel_rfl] at h1
  rw [show Tryz.prog.cellsOf 87 = 4 by kernel_rfl] at h2
  have g : ∀ i, i < 3 → ∃ z, xs[i]? = some z := fun i hi => ⟨xs[i]'(by simp at hlen; omega), List.getElem?_eq_getElem _⟩
  obtain ⟨z0, e0⟩ := g 0 (by omega)
  obtain ⟨z1, e1⟩ := g 1 (by omega)
  obtain ⟨z2, e2⟩ := g 2 (by omega)
  rw [e0] at h0
  rw [e1] at h1
  rw [e2] at h2
  obtain ⟨k0, hk0, _, w0⟩ := DataW.trod_int Tryz.underlying3 h0
  simp at hk0
  subst hk0
  have h1' : DataW.trod enc Tryz.prog W 0 (fun _ => true) true n 84 [c1, c2] = some z1 := by simpa using h1
  have h2' : DataW.trod enc Tryz.prog W 0 (fun _ => true) true n 87 [c3, c4, c5, c6] = some z2 := by simpa using h2
  obtain ⟨N, a, m, c, ls, rfl, rfl, q1, q2⟩ := trod_web h1'
  obtain ⟨num, ok, a1, n1, d1, es, a2, n2, d2, lb, ⟨rfl, rfl, rfl, rfl⟩, r1, r2, r3, r4⟩ := trod_answer h2'
  exact ⟨k0, N, a, m, c, ls, num, ok, a1, n1, d1, es, a2, n2, d2, lb, rfl, ⟨q1, r1, r2⟩, q2, r3, r4⟩
end Go.Proofs.YtpfkfbmghddepaaGreat
