/- The specification's TourOk. -/
import Derived.Test.YtcpffonenhhfoabFind6
namespace Go.Proofs.Ytcpffonenhhfoab
open Go.RowKit

theorem own_cut {u : World} {B e g n m c : Nat} {xs : List Value} (h : u.ownsRow B e 1 (.slice (some ⟨g, 0, none⟩) n c) n xs) (hm : m ≤ n) : u.ownsRow B e 1 (.slice (some ⟨g, 0, none⟩) m c) m (xs.take m) := by
  obtain ⟨hl, h2⟩ := h
  refine ⟨by rw [List.length_take, hl]; omega, ?_⟩
  rcases h2 with ⟨hv, _⟩ | ⟨g', cap, cur, hv, hb, hg, hnc, hcm, hcs, htake⟩
  · simp at hv
  · simp only [Value.slice.injEq, Option.some.injEq, Addr.mk.injEq, and_true, true_and] at hv
    obtain ⟨rfl, rfl⟩ := hv
    refine .inr ⟨g, c, cur, rfl, hb, hg, by omega, hcm, hcs, ?_⟩
    rw [← htake, List.take_take]
    congr 1
    omega

/-- two rows of ints in the making, each in a block of its own; nothing of wb has turned -/
structure Two (wb : World) (g n c : Nat) (ls : List Int) (g' n' c' : Nat) (ls' : List Int) (u : World) : Prop where
  one : u.ownsRow wb.heap.size 3 1 (.slice (some ⟨g, 0, none⟩) n c) n (ic ls)
  two : u.ownsRow wb.heap.size 3 1 (.slice (some ⟨g', 0, none⟩) n' c') n' (ic ls')
  ne : g ≠ g'
  bel : Below wb.heap.size wb u
theorem Two.size {wb : World} {g n c g' n' c' : Nat} {ls ls' : List Int} {u : World} (h : Two wb g n c ls g' n' c' ls' u) : wb.heap.size ≤ u.heap.size := h.bel.size
theorem Two.len {wb : World} {g n c g' n' c' : Nat} {ls ls' : List Int} {u : World} (h : Two wb g n c ls g' n' c' ls' u) : ls.length = n ∧ ls'.length = n' := by
  have h1 := h.one.1
  have h2 := h.two.1
  rw [ic_len] at h1 h2
  omega
theorem Two.swap {wb : World} {g n c g' n' c' : Nat} {ls ls' : List Int} {u : World} (h : Two wb g n c ls g' n' c' ls' u) : Two wb g' n' c' ls' g n c ls u := ⟨h.two, h.one, h.ne.symm, h.bel⟩
theorem Two.up {wb : World} {g n c g' n' c' : Nat} {ls ls' : List Int} {u v : World} (h : Two wb g n c ls g' n' c' ls' u) (hb : Below u.heap.size u v) : Two wb g n c ls g' n' c' ls' v :=
  ⟨own_up h.one hb, own_up h.two hb, h.ne, h.bel.trans (hb.mono h.size)⟩
theorem Two.cut {wb : World} {g n c g' n' c' m : Nat} {ls ls' : List Int} {u : World} (h : Two wb g n c ls g' n' c' ls' u) (hm : m ≤ n) : Two wb g m c (ls.take m) g' n' c' ls' u :=
  ⟨by have := own_cut h.one hm; rw [ic, ← List.map_take] at this; exact this, h.two, h.ne, h.bel⟩
theorem Two.app {wb : World} {g n c g' n' c' : Nat} {ls ls' : List Int} {u : World} (h : Two wb g n c ls g' n' c' ls' u) {x : Int} {o : Obj} {G cap : Nat} {u' : World}
    (ho : u'.ownsRow wb.heap.size 3 1 (.slice (some ⟨G, 0, none⟩) (n + 1) cap) (n + 1) (ic ls ++ [.int .i64 x])) (hg : (u.alloc o).grownBy u' (some g)) (hG : (some g : Option Nat) = some G ∨ G = u.heap.size + 1) :
    Two wb G (n + 1) cap (ls ++ [x]) g' n' c' ls' u' := by
  have hl := (h.two.lt g' rfl).2
  refine ⟨by rw [ic_snoc]; exact ho, World.ownsRow.kept (h.two.alloc o) hg (.inr (by simp [Value.ownBlock]; exact fun e => h.ne e.symm)), ?_, ?_⟩
  · rcases hG with hG | hG
    · simp at hG; rw [← hG]; exact h.ne
    · omega
  · exact (h.bel.alloc h.size _).grown hg (by have := h.size; simp; omega) (fun j hj => by simp at hj; subst hj; exact (h.one.lt g rfl).1)
theorem Two.cell {wb : World} {g n c g' n' c' : Nat} {ls ls' : List Int} {u : World} (h : Two wb g n c ls g' n' c' ls' u) {j : Nat} {x : Int} (hx : ls[j]? = some x) : u.cell? ⟨g, j, none⟩ = some (.int .i64 x) := by
  have hj := (List.getElem?_eq_some_iff.1 hx).1
  have := h.len.1
  rw [h.one.cellAt j (by omega)]
  exact ic_at hx
theorem Two.cap {wb : World} {g n c g' n' c' : Nat} {ls ls' : List Int} {u : World} (h : Two wb g n c ls g' n' c' ls' u) : n ≤ c := by
  rcases h.one.2 with ⟨hv, _⟩ | ⟨g2, cap, cur, hv, hb, hg, hnc, _⟩
  · simp at hv
  · simp only [Value.slice.injEq, Option.some.injEq, Addr.mk.injEq, and_true, true_and] at hv
    obtain ⟨rfl, rfl⟩ := hv
    exact hnc
theorem Two.is {wb : World} {g n c g' n' c' : Nat} {ls ls' : List Int} {u : World} (h : Two wb g n c ls g' n' c' ls' u) : Is u u.heap.size (some ⟨g, 0, none⟩) n ls := Is_of_own h.one

theorem Two.snoc {wb : World} {g n c g' n' c' : Nat} {ls ls' wy sn : List Int} {f : Int} {u : World} (h : Two wb g n c (ls ++ [f]) g' n' c' (ls' ++ [f]) u) (h1 : ls = wy.reverse) (h2 : ls' = sn.reverse) : Two wb g n c (f :: wy).reverse g' n' c' (f :: sn).reverse u := by
  subst h1 h2
  rw [List.reverse_cons, List.reverse_cons]
  exact h

/-- the walk comes to its end at the root -/
def openB (t : List Int) : Bool := match trun [] [] t with | some x => x.1.length == 1 | none => false
theorem tB_eq (t : List Int) : tB t = (t.all vB && openB t) := rfl
theorem trun_none {t : List Int} {k : Nat} (h : trun [] [] (t.take k) = none) : openB t = false := by
  have : trun [] [] t = none := by
    rw [← List.take_append_drop k t, trun_append, h]; rfl
  unfold openB
  rw [this]
theorem trun_snoc (w s a : List Int) (v : Int) : trun w s (a ++ [v]) = (trun w s a).bind fun x => tstep x.1 x.2 v := by
  rw [trun_append]
  cases trun w s a with
  | none => rfl
  | some x =>
    show (match tstep x.1 x.2 v with | none => none | some y => trun y.1 y.2 []) = _
    cases h : tstep x.1 x.2 v with
    | none => simp [h]
    | some y => simp [h, trun]
theorem tstep_up {q s : List Int} {c p v : Int} (h : v = p) : tstep (c :: p :: q) s v = some (p :: q, s) := by simp [tstep, isUp, h]
theorem tstep_bad2 {q s : List Int} {c p v : Int} (h : v ≠ p) (hs : v ∈ s) : tstep (c :: p :: q) s v = none := by simp [tstep, isUp, Ne.symm h, hs]
theorem tstep_down2 {q s : List Int} {c p v : Int} (h : v ≠ p) (hs : v ∉ s) : tstep (c :: p :: q) s v = some (v :: c :: p :: q, v :: s) := by simp [tstep, isUp, Ne.symm h, hs]
theorem tstep_bad1 {w s : List Int} {v : Int} (h : w.length ≤ 1) (hs : v ∈ s) : tstep w s v = none := by
  match w, h with
  | [], _ => simp [tstep, isUp, hs]
  | [c], _ => simp [tstep, isUp, hs]
theorem tstep_down1 {w s : List Int} {v : Int} (h : w.length ≤ 1) (hs : v ∉ s) : tstep w s v = some (v :: w, v :: s) := by
  match w, h with
  | [], _ => simp [tstep, isUp, hs]
  | [c], _ => simp [tstep, isUp, hs]
theorem rev_at2 (q : List Int) (c p : Int) : (c :: p :: q).reverse[q.length]? = some p := by
  simp
theorem rev_take1 (q : List Int) (c p : Int) : (c :: p :: q).reverse.take (q.length + 1) = (p :: q).reverse := by
  rw [List.reverse_cons, List.take_append_of_le_length (by simp)]
  exact List.take_of_length_le (by simp)

set_option maxRecDepth 100000 in
set_option maxHeartbeats 4000000 in
theorem l06Open_any (t : List Int) (n : Nat) (a : Option Addr) (c : Nat) (hn : n ≤ 3000000) (h0 : 0 < n) (w : World) (h : Is w w.heap.size a n t) :
    Calls Try.prog 72 #[.slice a n c] w fun e w' => e = .returned (.bool (openB t)) ∧ Below w.heap.size w w' := by
  obtain ⟨i0, hi, hz0, hz1, hz2⟩ := info_parts info3i
  obtain ⟨hlen, hrow⟩ := h
  rcases hrow with hz | ⟨b, off, rfl, hbl, hc⟩
  · omega
  · obtain ⟨x0, hx0⟩ : ∃ f, t[0]? = some f := ⟨t[0]'(by omega), List.getElem?_eq_getElem (by omega)⟩
    have e0 := hc 0 x0 hx0
    rw [Nat.add_zero] at e0
    have g0 : (0 : Int) < (n : Int) := by omega
    have HC := hideIt hc
    have hst0 : Two w w.heap.size 1 1 [x0] (w.heap.size + 1) 1 1 [x0] ((w.alloc (.cells #[.int .i64 x0] 3)).alloc (.cells #[.int .i64 x0] 3)) := by
      have p1 := World.ownsRow_lit (base := w.heap.size) (e := 3) (size := 1) w #[.int .i64 x0] 1 (Nat.le_refl _) (by unfold maxLen; omega) (by simp)
      have p2 := World.ownsRow_lit (base := w.heap.size) (e := 3) (size := 1) (w.alloc (.cells #[.int .i64 x0] 3)) #[.int .i64 x0] 1 (by simp) (by unfold maxLen; omega) (by simp)
      refine ⟨by simpa [ic] using p1.alloc _, by simpa [ic] using p2, by omega, ((Below.refl _ _).alloc (Nat.le_refl _) _).alloc (by simp) _⟩
    have H1 : Hid (trun [] [] (t.take 1) = some ([x0], [x0])) := by
      show _ = _
      rw [show t.take 1 = [x0] by rw [take_snocF t 0 x0 hx0]; rfl]
      rfl
    have e0' : (w.alloc (.cells #[.int .i64 x0] 3)).cell? ⟨b, off, none⟩ = some (.int .i64 x0) := by rw [World.cell?_of_block (w := w) (Below.heap_alloc w _ b hbl)]; exact e0
    clear hc hx0
    go_enter Try.func72, Try.ntmps72
    go_wp2
    go_loopw [3, 4, 5] (fun r s i wr => ∃ (k n1 g1 c1 n2 g2 c2 : Nat) (wy sn : List Int), 1 ≤ k ∧ k ≤ n ∧ i = .int .i64 (k : Int) ∧ r = .slice (some ⟨g1, 0, none⟩) n1 c1 ∧ s = .slice (some ⟨g2, 0, none⟩) n2 c2 ∧ n1 ≤ k ∧ n2 ≤ k ∧ 1 ≤ n1 ∧ Hid (trun [] [] (t.take k) = some (wy, sn)) ∧ Two w g1 n1 c1 wy.reverse g2 n2 c2 sn.reverse wr) (fun _ _ i _ => n - (intOf i).toNat)
    case atStart => exact ⟨1, 1, _, 1, 1, _, 1, [x0], [x0], by omega, by omega, rfl, rfl, by rfl, by omega, by omega, by omega, H1, hst0⟩
    case round =>
      obtain ⟨k, n1, g1, c1, n2, g2, c2, wy, sn, hk1, hk, rfl, rfl, rfl, hn1, hn2, hn0, HT, hst⟩ := hrel
      clear hst0 e0' e0
      by_cases hlt : k < n
      · obtain ⟨f, hf⟩ : ∃ f, t[k]? = some f := ⟨t[k]'(by omega), List.getElem?_eq_getElem (by omega)⟩
        have e0 : wr.cell? ⟨b, off + k, none⟩ = some (.int .i64 f) := by rw [hst.bel.cell hbl]; exact HC.out k f hf
        have b1 : (0 : Int) ≤ (k : Int) := by omega
        have b2 : (k : Int) < (n : Int) := by omega
        have HS := hideIt (show trun [] [] (t.take (k + 1)) = tstep wy sn f by rw [take_snocF t k f hf, trun_snoc, HT.out]; rfl)
        match wy, hst, HS with
        | [], hst, _ => exact absurd hst.len.1 (by simp; omega)
        | [c0], hst, HS =>
          have hl1 := hst.len.1
          simp only [List.length_reverse, List.length_cons, List.length_nil] at hl1
          have d0 : decide ((1 : Int) < (n1 : Int)) = false := decide_eq_false (by omega)
          obtain ⟨lw, hlw⟩ : ∃ l, l = [c0].reverse := ⟨_, rfl⟩
          obtain ⟨lsn, hlsn⟩ : ∃ l, l = sn.reverse := ⟨_, rfl⟩
          rw [← hlw, ← hlsn] at hst
          have HLW := hideIt hlw
          have HLS := hideIt hlsn
          have hmem : ∀ x, x ∈ lsn ↔ x ∈ sn := fun x => by rw [hlsn]; exact List.mem_reverse
          clear hlw hlsn
          have HSd := hideIt (fun x => hst.up (below_drewN (Below.refl wr.heap.size wr) x))
          by_cases hs : f ∈ sn
          · have HS2 := hideIt (trun_none (HS.out.trans (tstep_bad1 (by simp) hs)))
            have HIn := hideIt (fun x => l05In_any lsn f n2 (some ⟨g2, 0, none⟩) c2 (by omega) (wr.drewN x) (HSd.out x).swap.is)
            have d2 : decide (f ∈ lsn) = true := decide_eq_true ((hmem f).2 hs)
            rw [d2] at HIn
            clear HS HT hf hst d2 hs hmem
            go_wp2
            go_quiet (fail)
            go_wp2_with (go_at_call 44; refine (HIn.out _).mono ?_; rintro e w1 ⟨rfl, rfl⟩)
            go_ret
            exact ⟨by rw [HS2.out]; rfl, (HSd.out _).bel⟩
          · have HS2 := hideIt (HS.out.trans (tstep_down1 (by simp) hs))
            have HIn := hideIt (fun x => l05In_any lsn f n2 (some ⟨g2, 0, none⟩) c2 (by omega) (wr.drewN x) (HSd.out x).swap.is)
            have d2 : decide (f ∈ lsn) = false := decide_eq_false (fun h => hs ((hmem f).1 h))
            rw [d2] at HIn
            have HE := hideIt (fun (u : World) (hu : Below w.heap.size w u) => show u.cell? ⟨b, off + k, none⟩ = some (.int .i64 f) by rw [hu.cell hbl]; exact HC.out k f hf)
            clear HS HT hf hst d2 hs hmem
            go_wp2
            go_quiet (fail)
            go_wp2_with (go_at_call 44; refine (HIn.out _).mono ?_; rintro e w1 ⟨rfl, rfl⟩; refine Hid.out ?_)
            refine (show ∀ {p : Prop}, p → Hid p from fun h => h) ?_
            have S1 := HSd.out nq
            clear HIn HSd e0
            generalize wr.drewN nq = wd at *
            have e0 := HE.out wd S1.bel
            have z1 := S1.size
            go_wp2_with (at_builtin; refine wpList_append_lies _ rfl _ _ 45 rfl w.heap.size 3 i0 _ 1 8 Try.underlying45 hi hz0 hz1 hz2 rfl (by decide) _ _ _ rfl (S1.swap.one.alloc _) ⟨wd.heap.size, 0, none⟩ 1 1 [.int .i64 f] rfl rfl (newsI wd f) (by intro u hu; simp at hu; subst hu; rfl) (by omega) (by unfold maxLen; omega) (by omega) (by simp; omega) (wd.heap.size + 1) (by simp) ?_)
            intro g3 c3 w3 hown3 hg3 hG3 _
            have S3 := (S1.swap.app hown3 hg3 hG3).swap
            clear hown3 hg3 hG3 S1 e0 z1
            refine Hid.out ?_
            refine (show ∀ {p : Prop}, p → Hid p from fun h => h) ?_
            have e0 := HE.out w3 S3.bel
            have z1 := S3.size
            go_wp2_with (at_builtin; refine wpList_append_lies _ rfl _ _ 45 rfl w.heap.size 3 i0 _ 1 8 Try.underlying45 hi hz0 hz1 hz2 rfl (by decide) _ _ _ rfl (S3.one.alloc _) ⟨w3.heap.size, 0, none⟩ 1 1 [.int .i64 f] rfl rfl (newsI w3 f) (by intro u hu; simp at hu; subst hu; rfl) (by omega) (by unfold maxLen; omega) (by omega) (by simp; omega) (w3.heap.size + 1) (by simp) ?_)
            intro g4 c4 w4 hown4 hg4 hG4 _
            have S4 := S3.app hown4 hg4 hG4
            clear hown4 hg4 hG4 S3 e0 z1
            go_wp2
            exact ⟨⟨k + 1, n1 + 1, g4, c4, n2 + 1, g3, c3, f :: [c0], f :: sn, by omega, by omega, by go_num, rfl, rfl, by omega, by omega, by omega, HS2, S4.snoc HLW.out HLS.out⟩, by simp [intOf]; omega⟩
        | c0 :: p :: q, hst, HS =>
          have hl1 := hst.len.1
          simp only [List.length_reverse, List.length_cons] at hl1
          have m1 : wr.cell? ⟨g1, n1 - 2, none⟩ = some (.int .i64 p) := hst.cell (by rw [show n1 - 2 = q.length by omega]; exact rev_at2 q c0 p)
          have e1 : (((n1 : Int) - 2).toNat) = n1 - 2 := by omega
          have d0 : decide ((1 : Int) < (n1 : Int)) = true := decide_eq_true (by omega)
          have b3 : (0 : Int) ≤ (n1 : Int) - 2 := by omega
          have b4 : (n1 : Int) - 2 < (n1 : Int) := by omega
          by_cases hp : f = p
          · have d1 : (f == p) = true := by simpa using hp
            have hcap := hst.cap
            have b5 : (0 : Int) ≤ (n1 : Int) - 1 := by omega
            have b6 : (n1 : Int) - 1 ≤ (c1 : Int) := by omega
            have e2 : (((n1 : Int) - 1).toNat) = n1 - 1 := by omega
            have HS2 := hideIt (HS.out.trans (tstep_up hp))
            have HST := hideIt (fun x => (hst.cut (m := n1 - 1) (by omega)).up (below_drewN (Below.refl wr.heap.size wr) x))
            rw [show (c0 :: p :: q).reverse.take (n1 - 1) = (p :: q).reverse by rw [show n1 - 1 = q.length + 1 by omega]; exact rev_take1 q c0 p] at HST
            clear HS HT hf hst hp
            go_wp2
            go_quiet (fail)
            go_wp2
            exact ⟨⟨k + 1, n1 - 1, g1, c1, n2, g2, c2, p :: q, sn, by omega, by omega, by go_num, rfl, rfl, by omega, by omega, by omega, HS2, HST.out _⟩, by simp [intOf]; omega⟩
          · have d1 : (f == p) = false := by simpa using hp
            obtain ⟨lw, hlw⟩ : ∃ l, l = (c0 :: p :: q).reverse := ⟨_, rfl⟩
            obtain ⟨lsn, hlsn⟩ : ∃ l, l = sn.reverse := ⟨_, rfl⟩
            rw [← hlw, ← hlsn] at hst
            have HLW := hideIt hlw
            have HLS := hideIt hlsn
            have hmem : ∀ x, x ∈ lsn ↔ x ∈ sn := fun x => by rw [hlsn]; exact List.mem_reverse
            clear hlw hlsn
            have HSd := hideIt (fun x => hst.up (below_drewN (Below.refl wr.heap.size wr) x))
            by_cases hs : f ∈ sn
            · have HS2 := hideIt (trun_none (HS.out.trans (tstep_bad2 hp hs)))
              have HIn := hideIt (fun x => l05In_any lsn f n2 (some ⟨g2, 0, none⟩) c2 (by omega) (wr.drewN x) (HSd.out x).swap.is)
              have d2 : decide (f ∈ lsn) = true := decide_eq_true ((hmem f).2 hs)
              rw [d2] at HIn
              clear HS HT hf hst d2 hs hmem
              go_wp2
              go_quiet (fail)
              go_wp2_with (go_at_call 44; refine (HIn.out _).mono ?_; rintro e w1 ⟨rfl, rfl⟩)
              go_ret
              exact ⟨by rw [HS2.out]; rfl, (HSd.out _).bel⟩
            · have HS2 := hideIt (HS.out.trans (tstep_down2 hp hs))
              have HIn := hideIt (fun x => l05In_any lsn f n2 (some ⟨g2, 0, none⟩) c2 (by omega) (wr.drewN x) (HSd.out x).swap.is)
              have d2 : decide (f ∈ lsn) = false := decide_eq_false (fun h => hs ((hmem f).1 h))
              rw [d2] at HIn
              have HE := hideIt (fun (u : World) (hu : Below w.heap.size w u) => show u.cell? ⟨b, off + k, none⟩ = some (.int .i64 f) by rw [hu.cell hbl]; exact HC.out k f hf)
              clear HS HT hf hst d2 hs hmem
              go_wp2
              go_quiet (fail)
              go_wp2_with (go_at_call 44; refine (HIn.out _).mono ?_; rintro e w1 ⟨rfl, rfl⟩; refine Hid.out ?_)
              refine (show ∀ {p : Prop}, p → Hid p from fun h => h) ?_
              have S1 := HSd.out nq
              clear HIn HSd e0
              generalize wr.drewN nq = wd at *
              have e0 := HE.out wd S1.bel
              have z1 := S1.size
              go_wp2_with (at_builtin; refine wpList_append_lies _ rfl _ _ 45 rfl w.heap.size 3 i0 _ 1 8 Try.underlying45 hi hz0 hz1 hz2 rfl (by decide) _ _ _ rfl (S1.swap.one.alloc _) ⟨wd.heap.size, 0, none⟩ 1 1 [.int .i64 f] rfl rfl (newsI wd f) (by intro u hu; simp at hu; subst hu; rfl) (by omega) (by unfold maxLen; omega) (by omega) (by simp; omega) (wd.heap.size + 1) (by simp) ?_)
              intro g3 c3 w3 hown3 hg3 hG3 _
              have S3 := (S1.swap.app hown3 hg3 hG3).swap
              clear hown3 hg3 hG3 S1 e0 z1
              refine Hid.out ?_
              refine (show ∀ {p : Prop}, p → Hid p from fun h => h) ?_
              have e0 := HE.out w3 S3.bel
              have z1 := S3.size
              go_wp2_with (at_builtin; refine wpList_append_lies _ rfl _ _ 45 rfl w.heap.size 3 i0 _ 1 8 Try.underlying45 hi hz0 hz1 hz2 rfl (by decide) _ _ _ rfl (S3.one.alloc _) ⟨w3.heap.size, 0, none⟩ 1 1 [.int .i64 f] rfl rfl (newsI w3 f) (by intro u hu; simp at hu; subst hu; rfl) (by omega) (by unfold maxLen; omega) (by omega) (by simp; omega) (w3.heap.size + 1) (by simp) ?_)
              intro g4 c4 w4 hown4 hg4 hG4 _
              have S4 := S3.app hown4 hg4 hG4
              clear hown4 hg4 hG4 S3 e0 z1
              go_wp2
              exact ⟨⟨k + 1, n1 + 1, g4, c4, n2 + 1, g3, c3, f :: c0 :: p :: q, f :: sn, by omega, by omega, by go_num, rfl, rfl, by omega, by omega, by omega, HS2, S4.snoc HLW.out HLS.out⟩, by simp [intOf]; omega⟩
      · obtain rfl : k = n := by omega
        have HO : Hid (openB t = ((n1 : Int) == 1)) := by
          show _ = _
          have h1 := HT.out
          rw [List.take_of_length_le (by omega)] at h1
          have h2 := hst.len.1
          simp only [List.length_reverse] at h2
          unfold openB
          rw [h1]
          show (wy.length == 1) = _
          rw [h2, Bool.eq_iff_iff]
          simp
          omega
        have HB := hideIt hst.bel
        clear HT hst
        go_wp2
        go_ret
        exact ⟨by rw [HO.out]; rfl, HB.out⟩
end Go.Proofs.Ytcpffonenhhfoab
