/- The program's HeadNew, the specification's. -/
import Derived.Test.YtgdlpmmbeacejaaDoorKHn13
namespace Go.Proofs.YtgdlpmmbeacejaaDoor
open Go.RowKit

theorem shIdOk_any (i : Int) (w : World) : Calls Tryd.prog 58 #[.int .i64 i] w fun e w' => e = .returned (.bool (decide (1 ≤ i ∧ i ≤ 3))) ∧ w' = w := by
  by_cases h1 : 1 ≤ i
  · by_cases h2 : i ≤ 3
    · have d1 : decide (1 ≤ i) = true := by simpa using h1
      have d2 : decide (i ≤ 3) = true := by simpa using h2
      go_enter Tryd.func58, Tryd.ntmps58
      go_wp2
      go_ret
      exact ⟨by simp [h1, h2], rfl⟩
    · have d1 : decide (1 ≤ i) = true := by simpa using h1
      have d2 : decide (i ≤ 3) = false := by simpa using h2
      go_enter Tryd.func58, Tryd.ntmps58
      go_wp2
      go_ret
      exact ⟨by simp, rfl⟩
  · have d1 : decide (1 ≤ i) = false := by simpa using h1
    go_enter Tryd.func58, Tryd.ntmps58
    go_wp2
    go_ret
    exact ⟨by simp, rfl⟩
theorem made1 (v : Value) (n : Nat) : (madeCells #[v] n).toList = List.replicate n v := by
  refine List.ext_getElem? fun i => ?_
  rw [Array.getElem?_toList]
  unfold madeCells
  rw [Array.getElem?_map]
  by_cases h : i < n
  · rw [Array.getElem?_eq_getElem (by simpa using h), Array.getElem_range]
    simp [h, Nat.mod_one]
  · rw [Array.getElem?_eq_none (by simpa using h)]
    simp [h]
theorem drew_alloc13 (w : World) (o : Obj) : w.drew.alloc o = (w.alloc o).drew := rfl
/-- rows of a head that lie apart -/
structure HSep (p : Hp) (R : List Rw) : Prop where
  on : ∀ b, p.o.v.ownBlock = some b → p.n.v.ownBlock ≠ some b
  orr : ∀ r ∈ R, p.o.v.ownBlock ≠ some r.g
  nr : ∀ r ∈ R, p.n.v.ownBlock ≠ some r.g
def hnB (n sh : Int) : Bool := decide ((1 ≤ n ∧ n ≤ 12) ∧ 1 ≤ sh ∧ sh ≤ 3)
def hnH (n sh : Int) : Hd := if (1 ≤ n ∧ n ≤ 12) ∧ 1 ≤ sh ∧ sh ≤ 3 then newH n.toNat sh.toNat else zeroH
theorem hn_yes {nn s : Nat} (h : (1 ≤ nn ∧ nn ≤ 12) ∧ 1 ≤ s ∧ s ≤ 3) : hnH (nn : Int) (s : Int) = newH nn s ∧ hnB (nn : Int) (s : Int) = true := by
  have h' : (1 ≤ (nn : Int) ∧ (nn : Int) ≤ 12) ∧ 1 ≤ (s : Int) ∧ (s : Int) ≤ 3 := by omega
  constructor
  · unfold hnH; rw [if_pos h']; simp
  · unfold hnB; exact decide_eq_true h'
theorem hn_no {n sh : Int} (h : ¬ ((1 ≤ n ∧ n ≤ 12) ∧ 1 ≤ sh ∧ sh ≤ 3)) : hnH n sh = zeroH ∧ hnB n sh = false := by
  constructor
  · unfold hnH; rw [if_neg h]
  · unfold hnB; exact decide_eq_false h
/-- the lists of a new head -/
abbrev nwP (aO : Option Addr) (v cO : Nat) (aL : Option Addr) (k cL : Nat) (aN : Option Addr) : Hp := ⟨⟨aO, v, cO⟩, nilS, ⟨aL, k, cL⟩, ⟨aN, k, k⟩, nilS, nilS⟩
/-- what HeadNew answers -/
def HnA (w : World) (n sh : Int) (e : Ending) (w' : World) : Prop := ∃ (aO : Option Addr) (v cO : Nat) (aL : Option Addr) (k cL : Nat) (aN : Option Addr) (R : List Rw),
  e = .returned (.tuple #[.agg (hnC (hnH n sh).N aO v cO aL k cL aN k), .bool (hnB n sh)]) ∧ HOwn w' w.heap.size (hnH n sh) (nwP aO v cO aL k cL aN) R ∧ HSep (nwP aO v cO aL k cL aN) R ∧ Below w.heap.size w w'
theorem hna_no {w w' : World} {n sh : Int} (h : ¬ ((1 ≤ n ∧ n ≤ 12) ∧ 1 ≤ sh ∧ sh ≤ 3)) (hb : Below w.heap.size w w') : HnA w n sh (.returned (.tuple #[.agg #[.int .i64 0, .slice none 0 0, .slice none 0 0, .slice none 0 0, .slice none 0 0, .int .i64 0, .int .i64 0, .int .i64 0, .int .i64 0, .int .i64 0, .int .i64 0, .int .i64 0, .slice none 0 0, .int .i64 0, .slice none 0 0], .bool false])) w' := by
  refine ⟨none, 0, 0, none, 0, 0, none, [], by rw [(hn_no h).1, (hn_no h).2]; rfl, ?_, ⟨by simp [Value.ownBlock], by simp, by simp⟩, hb⟩
  rw [(hn_no h).1]
  exact ⟨World.ownsRow_nil _ _ _ _, World.ownsRow_nil _ _ _ _, (FB.nil w' w.heap.size), rfl, World.ownsRow_nil _ _ _ _, World.ownsRow_nil _ _ _ _, World.ownsRow_nil _ _ _ _⟩

set_option maxRecDepth 100000 in
set_option maxHeartbeats 8000000 in
theorem iHeadNew_any (n sh : Int) (w : World) : Calls Tryd.prog 56 #[.int .i64 n, .int .i64 sh] w fun e w' => HnA w n sh e w' := by
  have HV := hideIt O.vertsOk_any
  have HI := hideIt shIdOk_any
  have HB0 := hideIt (belA w (.cells #[.int .i64 0, .slice none 0 0, .slice none 0 0, .slice none 0 0, .slice none 0 0, .int .i64 0, .int .i64 0, .int .i64 0, .int .i64 0, .int .i64 0, .int .i64 0, .int .i64 0, .slice none 0 0, .int .i64 0, .slice none 0 0] 45))
  by_cases h1 : 1 ≤ n ∧ n ≤ 12
  case neg =>
    have r1 : decide (1 ≤ n ∧ n ≤ 12) = false := decide_eq_false h1
    have HH := hideIt h1
    clear h1
    go_enter Tryd.func56, Tryd.ntmps56
    go_wp2_with (go_at_call 61; refine (HV.out _ _).mono ?_; rintro e w1 ⟨rfl, rfl⟩)
    exact bodyPost_ret (v := .tuple #[.agg #[.int .i64 0, .slice none 0 0, .slice none 0 0, .slice none 0 0, .slice none 0 0, .int .i64 0, .int .i64 0, .int .i64 0, .int .i64 0, .int .i64 0, .int .i64 0, .int .i64 0, .slice none 0 0, .int .i64 0, .slice none 0 0], .bool false]) (by simp [results, Tryd.results56, go_sem]) rfl (hna_no (fun h => HH.out h.1) HB0.out)
  case pos =>
    by_cases h2 : 1 ≤ sh ∧ sh ≤ 3
    case neg =>
      have r1 : decide (1 ≤ n ∧ n ≤ 12) = true := decide_eq_true h1
      have r2 : decide (1 ≤ sh ∧ sh ≤ 3) = false := decide_eq_false h2
      have HH := hideIt h2
      clear h1 h2
      go_enter Tryd.func56, Tryd.ntmps56
      go_wp2_with (first | (go_at_call 61; refine (HV.out _ _).mono ?_; rintro e w1 ⟨rfl, rfl⟩) | (go_at_call 58; refine (HI.out _ _).mono ?_; rintro e w1 ⟨rfl, rfl⟩))
      exact bodyPost_ret (v := .tuple #[.agg #[.int .i64 0, .slice none 0 0, .slice none 0 0, .slice none 0 0, .slice none 0 0, .int .i64 0, .int .i64 0, .int .i64 0, .int .i64 0, .int .i64 0, .int .i64 0, .int .i64 0, .slice none 0 0, .int .i64 0, .slice none 0 0], .bool false]) (by simp [results, Tryd.results56, go_sem]) rfl (hna_no (fun h => HH.out h.2) HB0.out)
    case pos =>
      obtain ⟨nn, rfl⟩ : ∃ nn : Nat, n = (nn : Int) := ⟨n.toNat, by omega⟩
      obtain ⟨s, rfl⟩ : ∃ s : Nat, sh = (s : Int) := ⟨sh.toNat, by omega⟩
      have r1 : decide (1 ≤ (nn : Int) ∧ (nn : Int) ≤ 12) = true := decide_eq_true h1
      have r2 : decide (1 ≤ (s : Int) ∧ (s : Int) ≤ 3) = true := decide_eq_true h2
      have hn1 : 1 ≤ nn ∧ nn ≤ 12 := by omega
      have hs1 : 1 ≤ s ∧ s ≤ 3 := by omega
      have HY := hideIt (hn_yes ⟨hn1, hs1⟩)
      obtain ⟨i0, hi, hz0, hz1, hz2⟩ := info_parts info3i
      obtain ⟨i1, hi', hy0, hy1, hy2⟩ := info_parts infoIT
      have hmk : ∀ u : World, (Instr.makeSlice 32 (.int .i64 (s : Int)) (.int .i64 (s : Int))).run Tryd.prog u =
          .ok (.slice (some ⟨u.heap.size, 0, none⟩) s s) (u.alloc (.cells (madeCells #[.int .i64 0] s) 3)) := fun u => by
        have h := run_make (P := Tryd.prog) u 32 3 i0 _ Tryd.underlying32 hi hz0 .i64 .i64 (s : Int) (s : Int) (by omega) (by omega) (by rw [hz2]; omega) (by omega)
        rw [Int.toNat_natCast] at h
        simpa [hz1, Value.cells] using h
      obtain ⟨W1, hW1⟩ : ∃ W1, W1 = ((w.alloc (.cells #[.int .i64 0, .slice none 0 0, .slice none 0 0, .slice none 0 0, .slice none 0 0, .int .i64 0, .int .i64 0, .int .i64 0, .int .i64 0, .int .i64 0, .int .i64 0, .int .i64 0, .slice none 0 0, .int .i64 0, .slice none 0 0] 45)).alloc (.cells (madeCells #[.int .i64 0] s) 3)).alloc (.cells (hnC (nn : Int) none 0 0 none 0 0 (some ⟨w.heap.size + 1, 0, none⟩) s) 45) := ⟨_, rfl⟩
      have N1 : HN w nn s 0 none 0 [] 0 none 0 W1 := by
        have q1 := ((BxA.new w 45 #[.int .i64 0, .slice none 0 0, .slice none 0 0, .slice none 0 0, .slice none 0 0, .int .i64 0, .int .i64 0, .int .i64 0, .int .i64 0, .int .i64 0, .int .i64 0, .int .i64 0, .slice none 0 0, .int .i64 0, .slice none 0 0]).up (belA _ (.cells (madeCells #[.int .i64 0] s) 3))).up (belA _ (.cells (hnC (nn : Int) none 0 0 none 0 0 (some ⟨w.heap.size + 1, 0, none⟩) s) 45))
        have q2 := BxA.new ((w.alloc (.cells #[.int .i64 0, .slice none 0 0, .slice none 0 0, .slice none 0 0, .slice none 0 0, .int .i64 0, .int .i64 0, .int .i64 0, .int .i64 0, .int .i64 0, .int .i64 0, .int .i64 0, .slice none 0 0, .int .i64 0, .slice none 0 0] 45)).alloc (.cells (madeCells #[.int .i64 0] s) 3)) 45 (hnC (nn : Int) none 0 0 none 0 0 (some ⟨w.heap.size + 1, 0, none⟩) s)
        have q3 := own_up (World.ownsRow_lit (base := (w.alloc (.cells #[.int .i64 0, .slice none 0 0, .slice none 0 0, .slice none 0 0, .slice none 0 0, .int .i64 0, .int .i64 0, .int .i64 0, .int .i64 0, .int .i64 0, .int .i64 0, .int .i64 0, .slice none 0 0, .int .i64 0, .slice none 0 0] 45)).heap.size) (e := 3) (size := 1) (w.alloc (.cells #[.int .i64 0, .slice none 0 0, .slice none 0 0, .slice none 0 0, .slice none 0 0, .int .i64 0, .int .i64 0, .int .i64 0, .int .i64 0, .int .i64 0, .int .i64 0, .int .i64 0, .slice none 0 0, .int .i64 0, .slice none 0 0] 45)) (madeCells #[.int .i64 0] s) s (Nat.le_refl _) (by unfold maxLen; omega) (by simp [madeCells])) (belA _ (.cells (hnC (nn : Int) none 0 0 none 0 0 (some ⟨w.heap.size + 1, 0, none⟩) s) 45))
        rw [← hW1] at q1 q2 q3
        have e1 : (w.alloc (.cells #[.int .i64 0, .slice none 0 0, .slice none 0 0, .slice none 0 0, .slice none 0 0, .int .i64 0, .int .i64 0, .int .i64 0, .int .i64 0, .int .i64 0, .int .i64 0, .int .i64 0, .slice none 0 0, .int .i64 0, .slice none 0 0] 45)).heap.size = w.heap.size + 1 := by simp
        have e2 : ((w.alloc (.cells #[.int .i64 0, .slice none 0 0, .slice none 0 0, .slice none 0 0, .slice none 0 0, .int .i64 0, .int .i64 0, .int .i64 0, .int .i64 0, .int .i64 0, .int .i64 0, .int .i64 0, .slice none 0 0, .int .i64 0, .slice none 0 0] 45)).alloc (.cells (madeCells #[.int .i64 0] s) 3)).heap.size = w.heap.size + 1 + 1 := by simp
        rw [e1] at q3
        rw [e2] at q2
        have e3 : (madeCells #[Value.int .i64 0] s).toList = ic (List.replicate s 0) := by rw [made1]; simp [ic]
        rw [e3] at q3
        refine ⟨q1, q2, q3, FB.nil _ _, rfl, World.ownsRow_nil _ _ _ _, by simp, ?_⟩
        rw [hW1]
        exact (((Below.refl _ _).alloc (Nat.le_refl _) _).alloc (by simp) _).alloc (by simp; omega) _
      have HLb : Hid (∀ u, Calls Tryd.prog 62 #[.agg #[.int .i64 (nn : Int), .slice none 0 0]] u fun e v => ∃ g c, e = .returned (.slice (some ⟨g, 0, none⟩) nn c) ∧ Hid (v.ownsRow u.heap.size 3 1 (.slice (some ⟨g, 0, none⟩) nn c) nn (ic (O.labs [] nn nn))) ∧ Below u.heap.size u v) := fun u => by
        have h := O.iLabels_any (nn : Int) [] 0 none 0 (by omega) u ⟨rfl, .inl rfl⟩
        have e : O.labE (nn : Int) [] = O.labs [] nn nn := by
          have hg : O.gB (nn : Int) [] = true := by
            have : nn = 1 ∨ nn = 2 ∨ nn = 3 ∨ nn = 4 ∨ nn = 5 ∨ nn = 6 ∨ nn = 7 ∨ nn = 8 ∨ nn = 9 ∨ nn = 10 ∨ nn = 11 ∨ nn = 12 := by omega
            rcases this with rfl | rfl | rfl | rfl | rfl | rfl | rfl | rfl | rfl | rfl | rfl | rfl <;> rfl
          unfold O.labE
          rw [if_pos hg, Int.toNat_natCast]
        rw [e] at h
        refine h.mono fun e v ⟨a2, m2, c2, h1, h2, h3⟩ => ?_
        have hl : (ic (O.labs [] nn nn)).length = m2 * 1 := h2.1
        rw [ic_len, O.labs_len] at hl
        have hm : m2 = nn := by omega
        subst hm
        rcases h2.2 with ⟨_, h0⟩ | ⟨g, cap, cur, hv, hr⟩
        · omega
        · simp at hv
          obtain ⟨rfl, rfl⟩ := hv
          exact ⟨g, c2, h1, h2, h3⟩
      clear h1 h2
      go_enter Tryd.func56, Tryd.ntmps56
      go_wp2_with (first | (go_at_call 61; refine (HV.out _ _).mono ?_; rintro e w1 ⟨rfl, rfl⟩) | (go_at_call 58; refine (HI.out _ _).mono ?_; rintro e w1 ⟨rfl, rfl⟩))
      rw [← hW1]
      clear hW1 hmk
      go_loopw [22] (fun i wr => ∃ (k cL : Nat) (aL : Option Addr) (R : List Rw), k ≤ s ∧ i = .int .i64 (k : Int) ∧ Hid (HN w nn s k aL cL R 0 none 0 wr)) (fun i _ => s - (intOf i).toNat)
      case atStart => exact ⟨0, 0, none, [], by omega, rfl, N1⟩
      case round =>
        obtain ⟨k, cL, aL, R, hk, rfl, HS⟩ := hrel
        clear N1
        by_cases hlt : k < s
        · have b2 : (k : Int) < (s : Int) := by omega
          have x3 := HS.out.hb.cell 3 rfl
          have y3 : wr.drew.cell? ⟨w.heap.size + 1 + 1, 3, none⟩ = some (.slice aL k cL) := HS.out.drew.hb.cell 3 rfl
          have hz3 := HS.out.lt
          go_upto_region 6 with fail
          refine wp_region_any (by kernel_rfl) ?_
          change wpAny _ _ _ _ _ _ _ (World.drew _)
          refine takeOp (i := 0) (v := ?_) rfl (by kernel_rfl) (by kernel_rfl) (by kernel_rfl) (fun _ _ _ h => h) (by kernel_rfl) ?_ ?_
          rotate_left
          · intro w; go_simp; try with_reducible rfl
          try simp only [Act.put, List.getElem_toArray, List.getElem_cons_zero, List.setIfInBounds_toArray, List.set_cons_zero, List.set_cons_succ]
          refine takeOp (i := 2) (v := ?_) rfl (by kernel_rfl) (by kernel_rfl) (by kernel_rfl) (fun _ _ _ h => h) (by kernel_rfl) ?_ ?_
          rotate_left
          · intro w; go_simp; try with_reducible rfl
          try simp only [Act.put, List.getElem_toArray, List.getElem_cons_succ, List.getElem_cons_zero, List.setIfInBounds_toArray, List.set_cons_zero, List.set_cons_succ]
          refine takeOp (i := 3) (v := ?_) rfl (by kernel_rfl) (by kernel_rfl) (by kernel_rfl) (fun _ _ _ h => h) (by kernel_rfl) ?_ ?_
          rotate_left
          · intro w; go_simp; try with_reducible rfl
          try simp only [Act.put, List.getElem_toArray, List.getElem_cons_succ, List.getElem_cons_zero, List.setIfInBounds_toArray, List.set_cons_zero, List.set_cons_succ]
          refine wpAny_ready (rs := [1, 4]) (by kernel_rfl) (by simp) ?_
          refine AllReady.cons rfl (fun K hK => ?_) (AllReady.cons rfl (fun K hK => ?_) AllReady.nil)
          · go_simp
            refine hK _ _ ?_
            clear hK K
            try simp only [Act.put, List.getElem_toArray, List.getElem_cons_succ, List.getElem_cons_zero, List.setIfInBounds_toArray, List.set_cons_zero, List.set_cons_succ]
            refine wpAny_ready (rs := [4]) (by kernel_rfl) (by simp) ?_
            refine AllReady.cons rfl (fun K hK => ?_) AllReady.nil
            rw [if_pos]
            rotate_left
            · kernel_rfl
            go_wp2_with (go_at_call 62; refine (HLb.out _).mono ?_; rintro e w3 ⟨g, c, rfl, o3, b3⟩; refine Hid.out ?_)
            refine (show ∀ {p : Prop}, p → Hid p from fun h => h) ?_
            have S3 := HS.out.drew.up b3
            have z3 : w3.cell? ⟨w.heap.size + 1 + 1, 3, none⟩ = some (.slice aL k cL) := S3.hb.cell 3 rfl
            have z4 : (w3.alloc (.cells #[.slice (some ⟨g, 0, none⟩) nn c] 32)).cell? ⟨w.heap.size + 1 + 1, 3, none⟩ = some (.slice aL k cL) := (S3.up (belA _ _)).hb.cell 3 rfl
            have HS3 := hideIt S3
            have HRw := hideIt (RwB.of_own o3.out)
            have HRl : Hid (w.heap.size + 3 ≤ g ∧ ∀ x ∈ R, x.g ≠ g) := ⟨by have h1 := (o3.out.lt g rfl).1; simp at h1; omega, fun x hx e => by have h1 := (o3.out.lt g rfl).1; have h2 := (HS.out.fb.ins x hx).2.2; simp at h1; omega⟩
            clear S3 b3 o3
            refine hK _ _ ?_
            clear hK K
            try simp only [Act.put, List.getElem_toArray, List.getElem_cons_succ, List.getElem_cons_zero, List.setIfInBounds_toArray, List.set_cons_zero, List.set_cons_succ]
            refine wpAny_ready (rs := [5]) (by kernel_rfl) (by simp) ?_
            refine AllReady.cons rfl (fun K hK => ?_) AllReady.nil
            go_simp
            refine hK _ _ ?_
            clear hK K
            try simp only [Act.put, List.getElem_toArray, List.getElem_cons_succ, List.getElem_cons_zero, List.setIfInBounds_toArray, List.set_cons_zero, List.set_cons_succ]
            refine wpAny_ready (rs := [6]) (by kernel_rfl) (by simp) ?_
            refine AllReady.cons rfl (fun K hK => ?_) AllReady.nil
            refine step_append_lies _ rfl _ _ 36 rfl (w.heap.size + 3) 32 i1 _ 1 24 Tryd.underlying36 hi' hy0 hy1 hy2 rfl (by decide) _ _ _ rfl (HS3.out.fb.own.alloc (.cells #[.slice (some ⟨g, 0, none⟩) nn c] 32)) ⟨w3.heap.size, 0, none⟩ 1 1 [.slice (some ⟨g, 0, none⟩) nn c] rfl rfl (newsH w3 _) (by intro u hu; simp at hu; subst hu; rfl) (by omega) (by unfold maxLen; omega) (by omega) (by have := HS3.out.lt; simp; omega) (w3.heap.size + 1) (by simp) ?_
            intro g5 c5 w5 hown5 hg5 hat5 hlt5
            have e5 : Rw.hdr ⟨g, c, O.labs [] nn nn⟩ = .slice (some ⟨g, 0, none⟩) nn c := by unfold Rw.hdr; rw [O.labs_len]
            have Q5 := HS3.out.boxL hg5
            have x5 := Q5.cell 3 rfl
            have f5 := Q5.frozen 3
            rw [← e5] at hown5
            have HS5 := hideIt (HS3.out.lab (r := ⟨g, c, O.labs [] nn nn⟩) HRw.out HRl.out.1 HRl.out.2 (by simp [Value.ownBlock]) rfl hown5 hg5)
            clear hown5 hg5 hat5 hlt5 Q5 e5 HRw HRl z3 z4
            refine hK _ _ ?_
            clear hK K
            try simp only [Act.put, List.getElem_toArray, List.getElem_cons_succ, List.getElem_cons_zero, List.setIfInBounds_toArray, List.set_cons_zero, List.set_cons_succ]
            refine wpAny_ready (rs := [7]) (by kernel_rfl) (by simp) ?_
            refine AllReady.cons rfl (fun K hK => ?_) AllReady.nil
            go_simp
            refine hK _ _ ?_
            clear hK K
            try simp only [Act.put, List.getElem_toArray, List.getElem_cons_succ, List.getElem_cons_zero, List.setIfInBounds_toArray, List.set_cons_zero, List.set_cons_succ]
            refine wpAny_ready (rs := [8]) (by kernel_rfl) (by simp) ?_
            refine AllReady.cons rfl (fun K hK => ?_) AllReady.nil
            go_simp
            refine hK _ _ ?_
            clear hK K
            try simp only [Act.put, List.getElem_toArray, List.getElem_cons_succ, List.getElem_cons_zero, List.setIfInBounds_toArray, List.set_cons_zero, List.set_cons_succ]
            refine wpAny_done (by kernel_rfl) ?_ _
            clear x5 f5 HS3
            go_wp2
            exact ⟨⟨k + 1, c5, some ⟨g5, 0, none⟩, _, by omega, by go_num, HS5⟩, by simp [intOf]; omega⟩
          · rw [if_pos]
            rotate_left
            · kernel_rfl
            go_wp2_with (go_at_call 62; refine (HLb.out _).mono ?_; rintro e w3 ⟨g, c, rfl, o3, b3⟩; refine Hid.out ?_)
            refine (show ∀ {p : Prop}, p → Hid p from fun h => h) ?_
            have S3 := HS.out.drew.up b3
            have z3 : w3.cell? ⟨w.heap.size + 1 + 1, 3, none⟩ = some (.slice aL k cL) := S3.hb.cell 3 rfl
            have z4 : (w3.alloc (.cells #[.slice (some ⟨g, 0, none⟩) nn c] 32)).cell? ⟨w.heap.size + 1 + 1, 3, none⟩ = some (.slice aL k cL) := (S3.up (belA _ _)).hb.cell 3 rfl
            have HS3 := hideIt S3
            have HRw := hideIt (RwB.of_own o3.out)
            have HRl : Hid (w.heap.size + 3 ≤ g ∧ ∀ x ∈ R, x.g ≠ g) := ⟨by have h1 := (o3.out.lt g rfl).1; simp at h1; omega, fun x hx e => by have h1 := (o3.out.lt g rfl).1; have h2 := (HS.out.fb.ins x hx).2.2; simp at h1; omega⟩
            clear S3 b3 o3
            refine hK _ _ ?_
            clear hK K
            try simp only [Act.put, List.getElem_toArray, List.getElem_cons_succ, List.getElem_cons_zero, List.setIfInBounds_toArray, List.set_cons_zero, List.set_cons_succ]
            refine wpAny_ready (rs := [1, 5]) (by kernel_rfl) (by simp) ?_
            refine AllReady.cons rfl (fun K hK => ?_) (AllReady.cons rfl (fun K hK => ?_) AllReady.nil)
            · go_simp
              refine hK _ _ ?_
              clear hK K
              try simp only [Act.put, List.getElem_toArray, List.getElem_cons_succ, List.getElem_cons_zero, List.setIfInBounds_toArray, List.set_cons_zero, List.set_cons_succ]
              refine wpAny_ready (rs := [5]) (by kernel_rfl) (by simp) ?_
              refine AllReady.cons rfl (fun K hK => ?_) AllReady.nil
              go_simp
              refine hK _ _ ?_
              clear hK K
              try simp only [Act.put, List.getElem_toArray, List.getElem_cons_succ, List.getElem_cons_zero, List.setIfInBounds_toArray, List.set_cons_zero, List.set_cons_succ]
              refine wpAny_ready (rs := [6]) (by kernel_rfl) (by simp) ?_
              refine AllReady.cons rfl (fun K hK => ?_) AllReady.nil
              refine step_append_lies _ rfl _ _ 36 rfl (w.heap.size + 3) 32 i1 _ 1 24 Tryd.underlying36 hi' hy0 hy1 hy2 rfl (by decide) _ _ _ rfl (HS3.out.fb.own.alloc (.cells #[.slice (some ⟨g, 0, none⟩) nn c] 32)) ⟨w3.heap.size, 0, none⟩ 1 1 [.slice (some ⟨g, 0, none⟩) nn c] rfl rfl (newsH w3 _) (by intro u hu; simp at hu; subst hu; rfl) (by omega) (by unfold maxLen; omega) (by omega) (by have := HS3.out.lt; simp; omega) (w3.heap.size + 1) (by simp) ?_
              intro g5 c5 w5 hown5 hg5 hat5 hlt5
              have e5 : Rw.hdr ⟨g, c, O.labs [] nn nn⟩ = .slice (some ⟨g, 0, none⟩) nn c := by unfold Rw.hdr; rw [O.labs_len]
              have Q5 := HS3.out.boxL hg5
              have x5 := Q5.cell 3 rfl
              have f5 := Q5.frozen 3
              rw [← e5] at hown5
              have HS5 := hideIt (HS3.out.lab (r := ⟨g, c, O.labs [] nn nn⟩) HRw.out HRl.out.1 HRl.out.2 (by simp [Value.ownBlock]) rfl hown5 hg5)
              clear hown5 hg5 hat5 hlt5 Q5 e5 HRw HRl z3 z4
              refine hK _ _ ?_
              clear hK K
              try simp only [Act.put, List.getElem_toArray, List.getElem_cons_succ, List.getElem_cons_zero, List.setIfInBounds_toArray, List.set_cons_zero, List.set_cons_succ]
              refine wpAny_ready (rs := [7]) (by kernel_rfl) (by simp) ?_
              refine AllReady.cons rfl (fun K hK => ?_) AllReady.nil
              go_simp
              refine hK _ _ ?_
              clear hK K
              try simp only [Act.put, List.getElem_toArray, List.getElem_cons_succ, List.getElem_cons_zero, List.setIfInBounds_toArray, List.set_cons_zero, List.set_cons_succ]
              refine wpAny_ready (rs := [8]) (by kernel_rfl) (by simp) ?_
              refine AllReady.cons rfl (fun K hK => ?_) AllReady.nil
              go_simp
              refine hK _ _ ?_
              clear hK K
              try simp only [Act.put, List.getElem_toArray, List.getElem_cons_succ, List.getElem_cons_zero, List.setIfInBounds_toArray, List.set_cons_zero, List.set_cons_succ]
              refine wpAny_done (by kernel_rfl) ?_ _
              clear x5 f5 HS3
              go_wp2
              exact ⟨⟨k + 1, c5, some ⟨g5, 0, none⟩, _, by omega, by go_num, HS5⟩, by simp [intOf]; omega⟩
            · go_simp
              refine hK _ _ ?_
              clear hK K
              try simp only [Act.put, List.getElem_toArray, List.getElem_cons_succ, List.getElem_cons_zero, List.setIfInBounds_toArray, List.set_cons_zero, List.set_cons_succ]
              refine wpAny_ready (rs := [1]) (by kernel_rfl) (by simp) ?_
              refine AllReady.cons rfl (fun K hK => ?_) AllReady.nil
              go_simp
              refine hK _ _ ?_
              clear hK K
              try simp only [Act.put, List.getElem_toArray, List.getElem_cons_succ, List.getElem_cons_zero, List.setIfInBounds_toArray, List.set_cons_zero, List.set_cons_succ]
              refine wpAny_ready (rs := [6]) (by kernel_rfl) (by simp) ?_
              refine AllReady.cons rfl (fun K hK => ?_) AllReady.nil
              refine step_append_lies _ rfl _ _ 36 rfl (w.heap.size + 3) 32 i1 _ 1 24 Tryd.underlying36 hi' hy0 hy1 hy2 rfl (by decide) _ _ _ rfl (HS3.out.fb.own.alloc (.cells #[.slice (some ⟨g, 0, none⟩) nn c] 32)) ⟨w3.heap.size, 0, none⟩ 1 1 [.slice (some ⟨g, 0, none⟩) nn c] rfl rfl (newsH w3 _) (by intro u hu; simp at hu; subst hu; rfl) (by omega) (by unfold maxLen; omega) (by omega) (by have := HS3.out.lt; simp; omega) (w3.heap.size + 1) (by simp) ?_
              intro g5 c5 w5 hown5 hg5 hat5 hlt5
              have e5 : Rw.hdr ⟨g, c, O.labs [] nn nn⟩ = .slice (some ⟨g, 0, none⟩) nn c := by unfold Rw.hdr; rw [O.labs_len]
              have Q5 := HS3.out.boxL hg5
              have x5 := Q5.cell 3 rfl
              have f5 := Q5.frozen 3
              rw [← e5] at hown5
              have HS5 := hideIt (HS3.out.lab (r := ⟨g, c, O.labs [] nn nn⟩) HRw.out HRl.out.1 HRl.out.2 (by simp [Value.ownBlock]) rfl hown5 hg5)
              clear hown5 hg5 hat5 hlt5 Q5 e5 HRw HRl z3 z4
              refine hK _ _ ?_
              clear hK K
              try simp only [Act.put, List.getElem_toArray, List.getElem_cons_succ, List.getElem_cons_zero, List.setIfInBounds_toArray, List.set_cons_zero, List.set_cons_succ]
              refine wpAny_ready (rs := [7]) (by kernel_rfl) (by simp) ?_
              refine AllReady.cons rfl (fun K hK => ?_) AllReady.nil
              go_simp
              refine hK _ _ ?_
              clear hK K
              try simp only [Act.put, List.getElem_toArray, List.getElem_cons_succ, List.getElem_cons_zero, List.setIfInBounds_toArray, List.set_cons_zero, List.set_cons_succ]
              refine wpAny_ready (rs := [8]) (by kernel_rfl) (by simp) ?_
              refine AllReady.cons rfl (fun K hK => ?_) AllReady.nil
              go_simp
              refine hK _ _ ?_
              clear hK K
              try simp only [Act.put, List.getElem_toArray, List.getElem_cons_succ, List.getElem_cons_zero, List.setIfInBounds_toArray, List.set_cons_zero, List.set_cons_succ]
              refine wpAny_done (by kernel_rfl) ?_ _
              clear x5 f5 HS3
              go_wp2
              exact ⟨⟨k + 1, c5, some ⟨g5, 0, none⟩, _, by omega, by go_num, HS5⟩, by simp [intOf]; omega⟩
        · obtain rfl : k = s := by omega
          have HS1 := HS
          clear hlt hk HLb HS
          have hk0 : ¬ k = 0 := by omega
          go_wp2
          go_loopw [34] (fun i wr => ∃ (v cO : Nat) (aO : Option Addr), v ≤ nn ∧ i = .int .i64 (v : Int) ∧ Hid (HN w nn k k aL cL R v aO cO wr)) (fun i _ => nn - (intOf i).toNat)
          case atStart => exact ⟨0, 0, none, by omega, rfl, HS1⟩
          case round =>
            obtain ⟨v, cO, aO, hv, rfl, HS⟩ := hrel
            clear HS1
            by_cases hlt : v < nn
            · have b2 : (v : Int) < (nn : Int) := by omega
              have x1 : wr.drew.cell? ⟨w.heap.size + 1 + 1, 1, none⟩ = some (.slice aO v cO) := HS.out.drew.hb.cell 1 rfl
              have y1 : (wr.drew.alloc (.cells #[.int .i64 (1 + (v : Int).tmod (k : Int))] 3)).cell? ⟨w.heap.size + 1 + 1, 1, none⟩ = some (.slice aO v cO) := (HS.out.drew.up (belA _ _)).hb.cell 1 rfl
              rw [drew_alloc13] at y1
              have HOw := hideIt (HS.out.drew.ow.alloc (.cells #[.int .i64 (1 + (v : Int).tmod (k : Int))] 3))
              rw [drew_alloc13] at HOw
              have HNw := hideIt (newsI wr.drew (1 + (v : Int).tmod (k : Int)))
              rw [drew_alloc13] at HNw
              have ht1 : 0 ≤ (v : Int).tmod (k : Int) := Int.tmod_nonneg _ (by omega)
              have ht2 : (v : Int).tmod (k : Int) < 3 := by have := Int.tmod_lt_of_pos (v : Int) (b := (k : Int)) (by omega); omega
              have hwr : IntKind.i64.wrap (1 + (v : Int).tmod (k : Int)) = 1 + (v : Int).tmod (k : Int) := by rw [IntKind.wrap_i64]; omega
              go_upto_region 11 with fail
              refine wp_region_any (by kernel_rfl) ?_
              change wpAny _ _ _ _ _ _ _ (World.drew _)
              refine takeOp (i := 0) (v := ?_) rfl (by kernel_rfl) (by kernel_rfl) (by kernel_rfl) (fun _ _ _ h => h) (by kernel_rfl) ?_ ?_
              rotate_left
              · intro w; go_simp; try with_reducible rfl
              try simp only [Act.put, List.getElem_toArray, List.getElem_cons_zero, List.setIfInBounds_toArray, List.set_cons_zero, List.set_cons_succ]
              refine takeOp (i := 2) (v := ?_) rfl (by kernel_rfl) (by kernel_rfl) (by kernel_rfl) (fun _ _ _ h => h) (by kernel_rfl) ?_ ?_
              rotate_left
              · intro w; go_simp; try with_reducible rfl
              try simp only [Act.put, List.getElem_toArray, List.getElem_cons_succ, List.getElem_cons_zero, List.setIfInBounds_toArray, List.set_cons_zero, List.set_cons_succ]
              refine takeOp (i := 3) (v := ?_) rfl (by kernel_rfl) (by kernel_rfl) (by kernel_rfl) (fun _ _ _ h => h) (by kernel_rfl) ?_ ?_
              rotate_left
              · intro w; go_simp; try with_reducible rfl
              try simp only [Act.put, List.getElem_toArray, List.getElem_cons_succ, List.getElem_cons_zero, List.setIfInBounds_toArray, List.set_cons_zero, List.set_cons_succ]
              refine takeOp (i := 4) (v := ?_) rfl (by kernel_rfl) (by kernel_rfl) (by kernel_rfl) (fun _ _ _ h => h) (by kernel_rfl) ?_ ?_
              rotate_left
              · intro w; go_simp; try with_reducible rfl
              try simp only [Act.put, List.getElem_toArray, List.getElem_cons_succ, List.getElem_cons_zero, List.setIfInBounds_toArray, List.set_cons_zero, List.set_cons_succ]
              refine takeOp (i := 5) (v := ?_) rfl (by kernel_rfl) (by kernel_rfl) (by kernel_rfl) (fun _ _ _ h => h) (by kernel_rfl) ?_ ?_
              rotate_left
              · intro w; go_simp; try with_reducible rfl
              try simp only [Act.put, List.getElem_toArray, List.getElem_cons_succ, List.getElem_cons_zero, List.setIfInBounds_toArray, List.set_cons_zero, List.set_cons_succ]
              refine wpAny_ready (rs := [1, 6]) (by kernel_rfl) (by simp) ?_
              refine AllReady.cons rfl (fun K hK => ?_) (AllReady.cons rfl (fun K hK => ?_) AllReady.nil)
              · go_simp
                refine hK _ _ ?_
                clear hK K
                try simp only [Act.put, List.getElem_toArray, List.getElem_cons_succ, List.getElem_cons_zero, List.setIfInBounds_toArray, List.set_cons_zero, List.set_cons_succ]
                refine wpAny_ready (rs := [6]) (by kernel_rfl) (by simp) ?_
                refine AllReady.cons rfl (fun K hK => ?_) AllReady.nil
                go_simp
                refine hK _ _ ?_
                clear hK K
                try simp only [Act.put, List.getElem_toArray, List.getElem_cons_succ, List.getElem_cons_zero, List.setIfInBounds_toArray, List.set_cons_zero, List.set_cons_succ]
                refine wpAny_ready (rs := [7]) (by kernel_rfl) (by simp) ?_
                refine AllReady.cons rfl (fun K hK => ?_) AllReady.nil
                refine step_append_lies _ rfl _ _ 32 rfl (w.heap.size + 3) 3 i0 _ 1 8 Tryd.underlying32 hi hz0 hz1 hz2 rfl (by decide) _ _ _ rfl (HOw.out) ⟨wr.heap.size, 0, none⟩ 1 1 [.int .i64 (1 + (v : Int).tmod (k : Int))] rfl rfl (HNw.out) (by intro u hu; simp at hu; subst hu; rfl) (by omega) (by unfold maxLen; omega) (by omega) (by have := HS.out.lt; simp; omega) (wr.heap.size + 1) (by simp) ?_
                intro g5 c5 w5 hown5 hg5 hat5 hlt5
                rw [← drew_alloc13] at hg5
                have Q5 := HS.out.drew.boxO hg5
                have x5 := Q5.cell 1 rfl
                have f5 := Q5.frozen 1
                have HS5 := hideIt (HS.out.drew.own hown5 hg5 hat5)
                clear hown5 hg5 hat5 hlt5 Q5
                refine hK _ _ ?_
                clear hK K
                try simp only [Act.put, List.getElem_toArray, List.getElem_cons_succ, List.getElem_cons_zero, List.setIfInBounds_toArray, List.set_cons_zero, List.set_cons_succ]
                refine wpAny_ready (rs := [8]) (by kernel_rfl) (by simp) ?_
                refine AllReady.cons rfl (fun K hK => ?_) AllReady.nil
                go_simp
                refine hK _ _ ?_
                clear hK K
                try simp only [Act.put, List.getElem_toArray, List.getElem_cons_succ, List.getElem_cons_zero, List.setIfInBounds_toArray, List.set_cons_zero, List.set_cons_succ]
                refine wpAny_ready (rs := [9]) (by kernel_rfl) (by simp) ?_
                refine AllReady.cons rfl (fun K hK => ?_) AllReady.nil
                go_simp
                refine hK _ _ ?_
                clear hK K
                try simp only [Act.put, List.getElem_toArray, List.getElem_cons_succ, List.getElem_cons_zero, List.setIfInBounds_toArray, List.set_cons_zero, List.set_cons_succ]
                refine wpAny_done (by kernel_rfl) ?_ _
                clear x5 f5
                go_wp2
                exact ⟨⟨v + 1, c5, some ⟨g5, 0, none⟩, by omega, by go_num, HS5⟩, by simp [intOf]; omega⟩
              · go_simp
                refine hK _ _ ?_
                clear hK K
                try simp only [Act.put, List.getElem_toArray, List.getElem_cons_succ, List.getElem_cons_zero, List.setIfInBounds_toArray, List.set_cons_zero, List.set_cons_succ]
                refine wpAny_ready (rs := [1]) (by kernel_rfl) (by simp) ?_
                refine AllReady.cons rfl (fun K hK => ?_) AllReady.nil
                go_simp
                refine hK _ _ ?_
                clear hK K
                try simp only [Act.put, List.getElem_toArray, List.getElem_cons_succ, List.getElem_cons_zero, List.setIfInBounds_toArray, List.set_cons_zero, List.set_cons_succ]
                refine wpAny_ready (rs := [7]) (by kernel_rfl) (by simp) ?_
                refine AllReady.cons rfl (fun K hK => ?_) AllReady.nil
                refine step_append_lies _ rfl _ _ 32 rfl (w.heap.size + 3) 3 i0 _ 1 8 Tryd.underlying32 hi hz0 hz1 hz2 rfl (by decide) _ _ _ rfl (HOw.out) ⟨wr.heap.size, 0, none⟩ 1 1 [.int .i64 (1 + (v : Int).tmod (k : Int))] rfl rfl (HNw.out) (by intro u hu; simp at hu; subst hu; rfl) (by omega) (by unfold maxLen; omega) (by omega) (by have := HS.out.lt; simp; omega) (wr.heap.size + 1) (by simp) ?_
                intro g5 c5 w5 hown5 hg5 hat5 hlt5
                rw [← drew_alloc13] at hg5
                have Q5 := HS.out.drew.boxO hg5
                have x5 := Q5.cell 1 rfl
                have f5 := Q5.frozen 1
                have HS5 := hideIt (HS.out.drew.own hown5 hg5 hat5)
                clear hown5 hg5 hat5 hlt5 Q5
                refine hK _ _ ?_
                clear hK K
                try simp only [Act.put, List.getElem_toArray, List.getElem_cons_succ, List.getElem_cons_zero, List.setIfInBounds_toArray, List.set_cons_zero, List.set_cons_succ]
                refine wpAny_ready (rs := [8]) (by kernel_rfl) (by simp) ?_
                refine AllReady.cons rfl (fun K hK => ?_) AllReady.nil
                go_simp
                refine hK _ _ ?_
                clear hK K
                try simp only [Act.put, List.getElem_toArray, List.getElem_cons_succ, List.getElem_cons_zero, List.setIfInBounds_toArray, List.set_cons_zero, List.set_cons_succ]
                refine wpAny_ready (rs := [9]) (by kernel_rfl) (by simp) ?_
                refine AllReady.cons rfl (fun K hK => ?_) AllReady.nil
                go_simp
                refine hK _ _ ?_
                clear hK K
                try simp only [Act.put, List.getElem_toArray, List.getElem_cons_succ, List.getElem_cons_zero, List.setIfInBounds_toArray, List.set_cons_zero, List.set_cons_succ]
                refine wpAny_done (by kernel_rfl) ?_ _
                clear x5 f5
                go_wp2
                exact ⟨⟨v + 1, c5, some ⟨g5, 0, none⟩, by omega, by go_num, HS5⟩, by simp [intOf]; omega⟩
            · obtain rfl : v = nn := by omega
              have XF := BxA.setA (l := [.int .i64 0, .slice none 0 0, .slice none 0 0, .slice none 0 0, .slice none 0 0, .int .i64 0, .int .i64 0, .int .i64 0, .int .i64 0, .int .i64 0, .int .i64 0, .int .i64 0, .slice none 0 0, .int .i64 0, .slice none 0 0]) HS.out.rs 0 [.int .i64 (v : Int), .slice aO v cO, .slice none 0 0, .slice aL k cL, .slice (some ⟨w.heap.size + 1, 0, none⟩) k k, .int .i64 0, .int .i64 0, .int .i64 0, .int .i64 0, .int .i64 0, .int .i64 0, .int .i64 0, .slice none 0 0, .int .i64 0, .slice none 0 0]
              rw [setV_all [.int .i64 0, .slice none 0 0, .slice none 0 0, .slice none 0 0, .slice none 0 0, .int .i64 0, .int .i64 0, .int .i64 0, .int .i64 0, .int .i64 0, .int .i64 0, .int .i64 0, .slice none 0 0, .int .i64 0, .slice none 0 0] [.int .i64 (v : Int), .slice aO v cO, .slice none 0 0, .slice aL k cL, .slice (some ⟨w.heap.size + 1, 0, none⟩) k k, .int .i64 0, .int .i64 0, .int .i64 0, .int .i64 0, .int .i64 0, .int .i64 0, .int .i64 0, .slice none 0 0, .int .i64 0, .slice none 0 0] rfl] at XF
              have c0_ := XF.at 0 rfl
              have c1_ := XF.at 1 rfl
              have c2_ := XF.at 2 rfl
              have c3_ := XF.at 3 rfl
              have c4_ := XF.at 4 rfl
              have c5_ := XF.at 5 rfl
              have c6_ := XF.at 6 rfl
              have c7_ := XF.at 7 rfl
              have c8_ := XF.at 8 rfl
              have c9_ := XF.at 9 rfl
              have c10_ := XF.at 10 rfl
              have c11_ := XF.at 11 rfl
              have c12_ := XF.at 12 rfl
              have c13_ := XF.at 13 rfl
              have c14_ := XF.at 14 rfl
              dsimp only [setA] at c0_ c1_ c2_ c3_ c4_ c5_ c6_ c7_ c8_ c9_ c10_ c11_ c12_ c13_ c14_
              have HC := hideIt (And.intro c0_ (And.intro c1_ (And.intro c2_ (And.intro c3_ (And.intro c4_ (And.intro c5_ (And.intro c6_ (And.intro c7_ (And.intro c8_ (And.intro c9_ (And.intro c10_ (And.intro c11_ (And.intro c12_ (And.intro c13_ c14_))))))))))))))
              have k0 := HS.out.hb.cell 0 rfl
              have r0 := HS.out.rs.cell 0 rfl
              have z0 := HS.out.rs.frozen 0
              have k1 := HS.out.hb.cell 1 rfl
              have r1 := HS.out.rs.cell 1 rfl
              have z1 := HS.out.rs.frozen 1
              have k2 := HS.out.hb.cell 2 rfl
              have r2 := HS.out.rs.cell 2 rfl
              have z2 := HS.out.rs.frozen 2
              have k3 := HS.out.hb.cell 3 rfl
              have r3 := HS.out.rs.cell 3 rfl
              have z3 := HS.out.rs.frozen 3
              have k4 := HS.out.hb.cell 4 rfl
              have r4 := HS.out.rs.cell 4 rfl
              have z4 := HS.out.rs.frozen 4
              have k5 := HS.out.hb.cell 5 rfl
              have r5 := HS.out.rs.cell 5 rfl
              have z5 := HS.out.rs.frozen 5
              have k6 := HS.out.hb.cell 6 rfl
              have r6 := HS.out.rs.cell 6 rfl
              have z6 := HS.out.rs.frozen 6
              have k7 := HS.out.hb.cell 7 rfl
              have r7 := HS.out.rs.cell 7 rfl
              have z7 := HS.out.rs.frozen 7
              have k8 := HS.out.hb.cell 8 rfl
              have r8 := HS.out.rs.cell 8 rfl
              have z8 := HS.out.rs.frozen 8
              have k9 := HS.out.hb.cell 9 rfl
              have r9 := HS.out.rs.cell 9 rfl
              have z9 := HS.out.rs.frozen 9
              have k10 := HS.out.hb.cell 10 rfl
              have r10 := HS.out.rs.cell 10 rfl
              have z10 := HS.out.rs.frozen 10
              have k11 := HS.out.hb.cell 11 rfl
              have r11 := HS.out.rs.cell 11 rfl
              have z11 := HS.out.rs.frozen 11
              have k12 := HS.out.hb.cell 12 rfl
              have r12 := HS.out.rs.cell 12 rfl
              have z12 := HS.out.rs.frozen 12
              have k13 := HS.out.hb.cell 13 rfl
              have r13 := HS.out.rs.cell 13 rfl
              have z13 := HS.out.rs.frozen 13
              have k14 := HS.out.hb.cell 14 rfl
              have r14 := HS.out.rs.cell 14 rfl
              have z14 := HS.out.rs.frozen 14
              have HF : Hid (HOwn (setA wr w.heap.size 0 [.int .i64 (v : Int), .slice aO v cO, .slice none 0 0, .slice aL k cL, .slice (some ⟨w.heap.size + 1, 0, none⟩) k k, .int .i64 0, .int .i64 0, .int .i64 0, .int .i64 0, .int .i64 0, .int .i64 0, .int .i64 0, .slice none 0 0, .int .i64 0, .slice none 0 0]) w.heap.size (newH v k) ⟨⟨aO, v, cO⟩, nilS, ⟨aL, k, cL⟩, ⟨some ⟨w.heap.size + 1, 0, none⟩, k, k⟩, nilS, nilS⟩ R ∧ Below w.heap.size w (setA wr w.heap.size 0 [.int .i64 (v : Int), .slice aO v cO, .slice none 0 0, .slice aL k cL, .slice (some ⟨w.heap.size + 1, 0, none⟩) k k, .int .i64 0, .int .i64 0, .int .i64 0, .int .i64 0, .int .i64 0, .int .i64 0, .int .i64 0, .slice none 0 0, .int .i64 0, .slice none 0 0])) :=
                ⟨⟨own_mono (own_setA HS.out.ow (by omega) _ _) (by omega), World.ownsRow_nil _ _ _ _, (FB.setS HS.out.fb (by omega) _ _).lo (by omega), HS.out.rt, own_mono (own_setA HS.out.nu (by omega) _ _) (by omega), World.ownsRow_nil _ _ _ _, World.ownsRow_nil _ _ _ _⟩, below_setA HS.out.bl (by omega) _ _⟩
              have HP : Hid (HSep ⟨⟨aO, v, cO⟩, nilS, ⟨aL, k, cL⟩, ⟨some ⟨w.heap.size + 1, 0, none⟩, k, k⟩, nilS, nilS⟩ R) := by
                refine ⟨fun b hb e => ?_, HS.out.ne, fun r hr e => ?_⟩
                · have h1 := (HS.out.ow.lt b hb).1
                  simp [Value.ownBlock] at e
                  omega
                · have h1 := (HS.out.fb.ins r hr).2.1
                  simp [Value.ownBlock] at e
                  omega
              dsimp only [setA] at HF
              clear XF HS c0_ c1_ c2_ c3_ c4_ c5_ c6_ c7_ c8_ c9_ c10_ c11_ c12_ c13_ c14_
              go_wp2
              obtain ⟨c0_, c1_, c2_, c3_, c4_, c5_, c6_, c7_, c8_, c9_, c10_, c11_, c12_, c13_, c14_⟩ := HC.out
              exact bodyPost_ret (v := .tuple #[.agg #[.int .i64 (v : Int), .slice aO v cO, .slice none 0 0, .slice aL k cL, .slice (some ⟨w.heap.size + 1, 0, none⟩) k k, .int .i64 0, .int .i64 0, .int .i64 0, .int .i64 0, .int .i64 0, .int .i64 0, .int .i64 0, .slice none 0 0, .int .i64 0, .slice none 0 0], .bool true]) (by simp [results, Tryd.results56, go_sem, c0_, c1_, c2_, c3_, c4_, c5_, c6_, c7_, c8_, c9_, c10_, c11_, c12_, c13_, c14_]) rfl ⟨aO, v, cO, aL, k, cL, _, R, by rw [HY.out.1, HY.out.2]; rfl, by rw [HY.out.1]; exact HF.out.1, HP.out, HF.out.2⟩
end Go.Proofs.YtgdlpmmbeacejaaDoor
