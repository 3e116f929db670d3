/- What is around a vertex: by the program's way and by the specification's. (No walk.). The program's Around. The program's tourBelow. A list of right edges that ascend is right. The program's TourOf. The program's TourOf over any number of vertices. -/
import Derived.Test.YtpfkfbmghddepaaGreatKWb9
import Derived.Test.YtpfkfbmghddepaaGreatKInG6
import Derived.Test.YtpfkfbmghddepaaGreatKSTour
import Derived.Test.YtpfkfbmghddepaaGreatKLk7
import Derived.Test.YtpfkfbmghddepaaGreatKSplit
namespace Go.Proofs.YtpfkfbmghddepaaGreat

/-- the other end, where the edge has v -/
def otherE (v : Int) (e : EdgeV) : Option Int := if v = e.1 then some e.2 else if v = e.2 then some e.1 else none
/-- the program's way -/
def arI (es : List EdgeV) (v : Int) : List Int := es.filterMap (otherE v)
/-- the specification's way, of n vertices -/
def arS (es : List EdgeV) (v : Int) (n : Nat) : List Int := ((List.range n).map fun (u : Nat) => (u : Int)).filter fun u => hasB es (u, v) || hasB es (v, u)
theorem arI_snoc (es : List EdgeV) (v : Int) (e : EdgeV) : arI (es ++ [e]) v = arI es v ++ (otherE v e).toList := by
  unfold arI
  rw [List.filterMap_append]
  cases h : otherE v e <;> simp [h]
theorem arS_snoc (es : List EdgeV) (v : Int) (n : Nat) : arS es v (n + 1) = arS es v n ++ (if hasB es ((n : Int), v) || hasB es (v, (n : Int)) then [(n : Int)] else []) := by
  unfold arS
  rw [List.range_succ, List.map_append, List.filter_append]
  simp only [List.map_cons, List.map_nil, List.filter_cons, List.filter_nil]
theorem arI_len (es : List EdgeV) (v : Int) : (arI es v).length ≤ es.length := List.length_filterMap_le _ _
theorem arS_len (es : List EdgeV) (v : Int) (n : Nat) : (arS es v n).length ≤ n := by
  unfold arS
  exact Nat.le_trans (List.length_filter_le _ _) (by simp)

theorem sorted_ext : ∀ {l1 l2 : List Int}, l1.Pairwise (· < ·) → l2.Pairwise (· < ·) → (∀ x, x ∈ l1 ↔ x ∈ l2) → l1 = l2 := by
  intro l1
  induction l1 with
  | nil =>
    intro l2 _ _ h
    cases l2 with
    | nil => rfl
    | cons y l2 => exact absurd ((h y).2 (by simp)) (by simp)
  | cons x l1 ih =>
    intro l2 h1 h2 h
    cases l2 with
    | nil => exact absurd ((h x).1 (by simp)) (by simp)
    | cons y l2 =>
      obtain ⟨a1, b1⟩ := List.pairwise_cons.1 h1
      obtain ⟨a2, b2⟩ := List.pairwise_cons.1 h2
      have hxy : x = y := by
        have hx := (h x).1 (by simp)
        have hy := (h y).2 (by simp)
        rcases List.mem_cons.1 hx with e | hx
        · exact e
        · rcases List.mem_cons.1 hy with e | hy
          · exact e.symm
          · have := a2 x hx
            have := a1 y hy
            omega
      subst hxy
      rw [ih b1 b2 fun z => ?_]
      constructor
      · intro hz
        rcases List.mem_cons.1 ((h z).1 (by simp [hz])) with e | hz'
        · have := a1 z hz; omega
        · exact hz'
      · intro hz
        rcases List.mem_cons.1 ((h z).2 (by simp [hz])) with e | hz'
        · have := a2 z hz; omega
        · exact hz'

theorem eB_iff (n : Int) (e : EdgeV) : eB n e = true ↔ (1 ≤ n ∧ n ≤ 12 ∧ 0 ≤ e.1 ∧ e.1 < e.2 ∧ e.2 < n) := by unfold eB; rw [decide_eq_true_iff]

theorem pairwise_asc {es : List EdgeV} (h : Asc es) : es.Pairwise fun d e => lt d e = true := by
  rw [List.pairwise_iff_getElem]
  exact fun i j hi hj hij => h i j _ _ hij (List.getElem?_eq_getElem hi) (List.getElem?_eq_getElem hj)

theorem ar_same {N : Int} {es : List EdgeV} (v : Int) (hg : gB N es = true) : arI es v = arS es v N.toNat := by
  obtain ⟨⟨hN1, hN2⟩, hck, _⟩ := gB_chk hg
  have hE : ∀ e ∈ es, 0 ≤ e.1 ∧ e.1 < e.2 ∧ e.2 < N := fun e he => by have := (eB_iff N e).1 (chk_eB hck he); omega
  refine sorted_ext ?_ ?_ ?_
  · unfold arI
    rw [List.pairwise_filterMap]
    refine List.Pairwise.imp_of_mem ?_ (pairwise_asc (asc_of_chk hck))
    intro d e hd he hlt b hb b' hb'
    rw [lt_iff] at hlt
    have h1 := hE d hd
    have h2 := hE e he
    unfold otherE at hb hb'
    split at hb
    · split at hb'
      · simp at hb hb'; omega
      · split at hb'
        · simp at hb hb'; omega
        · cases hb'
    · split at hb
      · split at hb'
        · simp at hb hb'; omega
        · split at hb'
          · simp at hb hb'; omega
          · cases hb'
      · cases hb
  · unfold arS
    refine List.Pairwise.filter _ ?_
    rw [List.pairwise_map]
    exact List.Pairwise.imp (fun h => by omega) List.pairwise_lt_range
  · intro x
    unfold arI arS
    rw [List.mem_filterMap, List.mem_filter, List.mem_map]
    constructor
    · rintro ⟨e, he, hx⟩
      have h1 := hE e he
      unfold otherE at hx
      split at hx
      · rename_i hv
        simp at hx
        subst hv hx
        refine ⟨⟨e.2.toNat, by rw [List.mem_range]; omega, by omega⟩, ?_⟩
        rw [Bool.or_eq_true]
        exact .inr (decide_eq_true he)
      · split at hx
        · rename_i hv
          simp at hx
          subst hv hx
          refine ⟨⟨e.1.toNat, by rw [List.mem_range]; omega, by omega⟩, ?_⟩
          rw [Bool.or_eq_true]
          exact .inl (decide_eq_true he)
        · cases hx
    · rintro ⟨_, hx⟩
      rw [Bool.or_eq_true] at hx
      rcases hx with hx | hx
      · have hm : (x, v) ∈ es := of_decide_eq_true hx
        have h1 := hE _ hm
        refine ⟨_, hm, ?_⟩
        unfold otherE
        rw [if_neg (by dsimp only at h1 ⊢; omega), if_pos rfl]
      · have hm : (v, x) ∈ es := of_decide_eq_true hx
        refine ⟨_, hm, ?_⟩
        unfold otherE
        rw [if_pos rfl]

/-- Around -/
def arE (N : Int) (es : List EdgeV) (v : Int) : List Int := if gB N es = true then arS es v N.toNat else []
theorem arE_len {N : Int} {es : List EdgeV} {v : Int} : (arE N es v).length ≤ 200 := by
  unfold arE
  split
  · rename_i h
    have h1 := (gB_chk h).1
    have h2 := arS_len es v N.toNat
    omega
  · simp
end Go.Proofs.YtpfkfbmghddepaaGreat
namespace Go.Proofs.YtpfkfbmghddepaaGreat
open Go.RowKit

set_option maxRecDepth 100000 in
set_option maxHeartbeats 4000000 in
theorem iAround_any (N : Int) (es : List EdgeV) (v : Int) (n : Nat) (a : Option Addr) (c : Nat) (hn : n ≤ 1048576) (w : World) (h : Es w w.heap.size a n es) :
    Calls Tryz.prog 198 #[.agg #[.int .i64 N, .slice a n c], .int .i64 v] w fun e w' => IAns w (arE N es v) e w' := by
  obtain ⟨i0, hi, hz0, hz1, hz2⟩ := info_parts info3i
  have HGO : Hid (∀ u, InG w N a n c u → Calls Tryz.prog 78 #[.agg #[.int .i64 N, .slice a n c]] u fun e v => e = .returned (.bool (gB N es)) ∧ InG w N a n c v) := fun u hu =>
    (iGraphOk_any N es n a c hn u (h.up hu.below)).mono fun _ _ ⟨he, hb⟩ => ⟨he, hu.up hb⟩
  have S1 := InG.start w N a n c
  cases hG : gB N es with
  | false =>
    rw [hG] at HGO
    have HO := hideIt (show arE N es v = [] by unfold arE; rw [hG, if_neg (by simp)])
    clear hG h
    go_enter Tryz.func198, Tryz.ntmps198
    go_wp2_with (go_at_call 78; refine (HGO.out _ S1).mono ?_; rintro e w4 ⟨rfl, S4⟩; refine Hid.out ?_)
    refine (show ∀ {p : Prop}, p → Hid p from fun h => h) ?_
    go_wp2
    go_ret
    rw [HO.out]
    exact ians_nil S4.below
  | true =>
    rw [hG] at HGO
    have HO := hideIt (show arE N es v = arI es v by unfold arE; rw [hG, if_pos rfl, ar_same v hG])
    have HR := hideIt h
    have hlen := h.1
    clear hG h
    go_enter Tryz.func198, Tryz.ntmps198
    go_wp2_with (go_at_call 78; refine (HGO.out _ S1).mono ?_; rintro e w4 ⟨rfl, S4⟩; refine Hid.out ?_)
    refine (show ∀ {p : Prop}, p → Hid p from fun h => h) ?_
    obtain ⟨k0, k1⟩ := S4.cells
    have z4 := S4.size
    have hq0 : (w4.alloc (.cells #[] 3)).cell? ⟨w.heap.size, 1, none⟩ = some (.slice a n c) := by rw [World.cell?_of_block (w := w4) (Below.heap_alloc w4 _ w.heap.size (by omega))]; exact k1
    go_wp2
    go_loopw [5, 15] (fun r i wr => ∃ (k m' : Nat) (a' : Option Addr) (c' : Nat) (gs : List Int), k ≤ n ∧ i = .int .i64 (k : Int) ∧ r = .slice a' m' c' ∧ m' ≤ k ∧ Hid (gs = arI (es.take k) v) ∧ ISt w4 a' m' c' gs wr) (fun _ i _ => n - (intOf i).toNat)
    case atStart => exact ⟨0, 0, _, _, [], by omega, rfl, rfl, by omega, by show _ = _; simp [arI], ISt.start w4⟩
    case round =>
      obtain ⟨k, m', a', c', gs, hk, rfl, rfl, hm, hgs, hst⟩ := hrel
      by_cases hlt : k < n
      · rcases HR.out.2 with hz | ⟨b, off, rfl, hbl, hc⟩
        · omega
        · obtain ⟨f, hf⟩ : ∃ f, es[k]? = some f := ⟨es[k]'(by omega), List.getElem?_eq_getElem (by omega)⟩
          obtain ⟨c0, c1⟩ := hc k f hf
          have b1 : (0 : Int) ≤ (k : Int) := by omega
          have b2 : (k : Int) < (n : Int) := by omega
          have hbw := (hst.inG S4).below
          have e0 : wr.cell? ⟨b, off + k * 2, none⟩ = some (.int .i64 f.1) := by rw [hbw.cell hbl]; exact c0
          have e1 : wr.cell? ⟨b, off + k * 2 + 1, none⟩ = some (.int .i64 f.2) := by rw [hbw.cell hbl]; exact c1
          have zr := hst.size
          have hst1 := hst.up ((Below.refl wr.heap.size wr).alloc (Nat.le_refl _) (.cells #[.int .i64 f.1, .int .i64 f.2] 28))
          by_cases h1 : v = f.1
          · have HG : Hid (gs ++ [f.2] = arI (es.take (k + 1)) v) := by
              show _ = _
              rw [take_snocF es k f hf, arI_snoc, hgs.out]
              simp [otherE, h1]
            have d1 : (v == f.1) = true := by simpa using h1
            clear hc hf c0 c1 hgs hbw h1
            go_wp2_with (at_builtin; refine wpList_append_own _ rfl _ _ 44 rfl w4.heap.size 3 i0 _ 1 8 Tryz.underlying44 hi hz0 hz1 hz2 rfl (by decide) _ _ _ rfl (hst1.own.alloc _) ⟨wr.heap.size + 1, 0, none⟩ 1 1 [.int .i64 f.2] rfl rfl (by have := newsI (wr.alloc (.cells #[.int .i64 f.1, .int .i64 f.2] 28)) f.2; simpa using this) (by intro u hu; simp at hu; subst hu; rfl) (by unfold maxLen; omega) (by omega) (by simp; omega) ?_)
            intro v2 w2 hown2 hg2 hn2
            obtain ⟨a2, c2, rfl, hst2⟩ := hst1.app hown2 hg2
            clear hown2 hg2 hn2 hst hst1 e0 e1
            go_wp2
            exact ⟨⟨k + 1, m' + 1, a2, c2, gs ++ [f.2], by omega, by go_num, rfl, by omega, HG, hst2⟩, by simp [intOf]; omega⟩
          · have d1 : (v == f.1) = false := by simpa using h1
            by_cases h2 : v = f.2
            · have HG : Hid (gs ++ [f.1] = arI (es.take (k + 1)) v) := by
                show _ = _
                rw [take_snocF es k f hf, arI_snoc, hgs.out]
                simp [otherE, h2]
                rw [if_neg (fun h3 => h1 (h2.trans h3))]
                rfl
              have d2 : (v == f.2) = true := by simpa using h2
              clear hc hf c0 c1 hgs hbw h1 h2
              go_wp2_with (at_builtin; refine wpList_append_own _ rfl _ _ 44 rfl w4.heap.size 3 i0 _ 1 8 Tryz.underlying44 hi hz0 hz1 hz2 rfl (by decide) _ _ _ rfl (hst1.own.alloc _) ⟨wr.heap.size + 1, 0, none⟩ 1 1 [.int .i64 f.1] rfl rfl (by have := newsI (wr.alloc (.cells #[.int .i64 f.1, .int .i64 f.2] 28)) f.1; simpa using this) (by intro u hu; simp at hu; subst hu; rfl) (by unfold maxLen; omega) (by omega) (by simp; omega) ?_)
              intro v2 w2 hown2 hg2 hn2
              obtain ⟨a2, c2, rfl, hst2⟩ := hst1.app hown2 hg2
              clear hown2 hg2 hn2 hst hst1 e0 e1
              go_wp2
              exact ⟨⟨k + 1, m' + 1, a2, c2, gs ++ [f.1], by omega, by go_num, rfl, by omega, HG, hst2⟩, by simp [intOf]; omega⟩
            · have HG : Hid (gs = arI (es.take (k + 1)) v) := by
                show _ = _
                rw [take_snocF es k f hf, arI_snoc, hgs.out]
                simp [otherE, h1, h2]
              have d2 : (v == f.2) = false := by simpa using h2
              clear hc hf c0 c1 hgs hbw h1 h2
              go_wp2
              exact ⟨⟨k + 1, m', a', c', gs, by omega, by go_num, rfl, by omega, HG, hst1⟩, by simp [intOf]; omega⟩
      · obtain rfl : k = n := by omega
        have HF : Hid (gs = arI es v) := by show _ = _; rw [hgs.out, List.take_of_length_le (by omega)]
        have HA := hideIt (hst.ans S4)
        clear hgs hst
        go_wp2
        go_ret
        rw [HO.out, ← HF.out]
        exact HA.out
end Go.Proofs.YtpfkfbmghddepaaGreat
namespace Go.Proofs.YtpfkfbmghddepaaGreat
open Go.RowKit

/-- the walk over a list of neighbours -/
def wkL (rec : Int → Int → List Int → Option (List Int × List Int)) (v fr : Int) : List Int → List Int → List Int → Option (List Int × List Int)
  | [], out, seen => some (out, seen)
  | u :: r, out, seen =>
    if u = fr then wkL rec v fr r out seen
    else if u ∈ seen then none
    else match rec u v seen with
      | none => none
      | some x => wkL rec v fr r (out ++ x.1 ++ [v]) x.2
/-- the neighbours from n - rem on -/
def nbK (es : List EdgeV) (v : Int) (n : Nat) : Nat → List Int
  | 0 => []
  | rem + 1 => if mkE v ((n - (rem + 1) : Nat) : Int) ∈ es then ((n - (rem + 1) : Nat) : Int) :: nbK es v n rem else nbK es v n rem
theorem wkGo_L (rec : Int → Int → List Int → Option (List Int × List Int)) (es : List EdgeV) (n : Nat) (v fr : Int) (rem : Nat) (out seen : List Int) : wkGo rec es n v fr rem out seen = wkL rec v fr (nbK es v n rem) out seen := by
  induction rem generalizing out seen with
  | zero => rfl
  | succ rem ih =>
    rw [wkGo, nbK]
    by_cases h : mkE v ((n - (rem + 1) : Nat) : Int) ∈ es
    · rw [if_pos h]
      by_cases h2 : ((n - (rem + 1) : Nat) : Int) = fr
      · rw [if_pos (.inl h2), wkL, if_pos h2]; exact ih _ _
      · rw [if_neg (by rintro (h3 | h3); exact h2 h3; exact h3 h), wkL, if_neg h2]
        by_cases h4 : ((n - (rem + 1) : Nat) : Int) ∈ seen
        · rw [if_pos h4, if_pos h4]
        · rw [if_neg h4, if_neg h4]
          cases rec ((n - (rem + 1) : Nat) : Int) v seen with
          | none => rfl
          | some x => exact ih _ _
    · rw [if_neg h, if_pos (.inr h)]; exact ih _ _
theorem nbK_mem (es : List EdgeV) (v : Int) (n rem : Nat) (hr : rem ≤ n) (x : Int) : x ∈ nbK es v n rem ↔ ((n - rem : Nat) : Int) ≤ x ∧ x < (n : Int) ∧ mkE v x ∈ es := by
  induction rem with
  | zero => simp [nbK]; omega
  | succ rem ih =>
    rw [nbK]
    have ih := ih (by omega)
    by_cases h : mkE v ((n - (rem + 1) : Nat) : Int) ∈ es
    · rw [if_pos h, List.mem_cons, ih]
      constructor
      · rintro (rfl | ⟨h1, h2, h3⟩)
        · exact ⟨by omega, by omega, h⟩
        · exact ⟨by omega, h2, h3⟩
      · rintro ⟨h1, h2, h3⟩
        by_cases e : x = ((n - (rem + 1) : Nat) : Int)
        · exact .inl e
        · exact .inr ⟨by omega, h2, h3⟩
    · rw [if_neg h, ih]
      constructor
      · rintro ⟨h1, h2, h3⟩; exact ⟨by omega, h2, h3⟩
      · rintro ⟨h1, h2, h3⟩
        have : x ≠ ((n - (rem + 1) : Nat) : Int) := fun e => h (e ▸ h3)
        exact ⟨by omega, h2, h3⟩
theorem nbK_asc (es : List EdgeV) (v : Int) (n rem : Nat) (hr : rem ≤ n) : (nbK es v n rem).Pairwise (· < ·) := by
  induction rem with
  | zero => simp [nbK]
  | succ rem ih =>
    rw [nbK]
    have ih := ih (by omega)
    split
    · rw [List.pairwise_cons]
      refine ⟨fun y hy => ?_, ih⟩
      have := (nbK_mem es v n rem (by omega) y).1 hy
      omega
    · exact ih
theorem nb_ar {es : List EdgeV} {n : Nat} (hE : ∀ e ∈ es, 0 ≤ e.1 ∧ e.1 < e.2 ∧ e.2 < (n : Int)) (v : Int) : nbK es v n n = arS es v n := by
  refine asc_ext (nbK_asc es v n n (Nat.le_refl _)) ?_ fun x => ?_
  · unfold arS
    refine List.Pairwise.filter _ ?_
    rw [List.pairwise_map]
    exact List.Pairwise.imp (fun h => by omega) (List.pairwise_lt_range (n := n))
  · rw [nbK_mem es v n n (Nat.le_refl _)]
    unfold arS
    simp only [List.mem_filter, List.mem_map, List.mem_range, hasB, Bool.or_eq_true, decide_eq_true_eq]
    constructor
    · rintro ⟨h1, h2, h3⟩
      refine ⟨⟨x.toNat, by omega, by omega⟩, ?_⟩
      rcases mkE_ends v x with e | e
      · rw [e] at h3; exact .inr h3
      · rw [e] at h3; exact .inl h3
    · rintro ⟨⟨j, hj, rfl⟩, h3⟩
      refine ⟨by omega, by omega, ?_⟩
      unfold mkE
      rcases h3 with h3 | h3
      · have := hE _ h3
        simp at this
        rw [if_neg (by omega)]; exact h3
      · have := hE _ h3
        simp at this
        rw [if_pos (by omega)]; exact h3
theorem wkL_len {rec : Int → Int → List Int → Option (List Int × List Int)} {v fr : Int} {nb out seen t sn : List Int} (h : wkL rec v fr nb out seen = some (t, sn)) : out.length ≤ t.length := by
  induction nb generalizing out seen with
  | nil => simp [wkL] at h; rw [h.1]; exact Nat.le_refl _
  | cons u r ih =>
    rw [wkL] at h
    split at h
    · exact ih h
    · split at h
      · simp at h
      · cases hr : rec u v seen with
        | none => rw [hr] at h; simp at h
        | some p =>
          rw [hr] at h
          have := ih h
          simp at this
          omega
theorem wkL_go {rec : Int → Int → List Int → Option (List Int × List Int)} {v fr u : Int} {r out seen : List Int} {x : List Int × List Int} (h1 : u ≠ fr) (h : wkL rec v fr (u :: r) out seen = some x) : ∃ p, rec u v seen = some p ∧ wkL rec v fr r (out ++ p.1 ++ [v]) p.2 = some x := by
  rw [wkL, if_neg h1] at h
  split at h
  · simp at h
  · cases hr : rec u v seen with
    | none => rw [hr] at h; simp at h
    | some p => rw [hr] at h; exact ⟨p, rfl, h⟩

/-- the tour in the making, and the neighbours, stand -/
structure TBSt (w : World) (W0 : World) (an : Option Addr) (mn : Nat) (nb : List Int) (a : Option Addr) (m c : Nat) (out : List Int) (u : World) : Prop where
  own : u.ownsRow w.heap.size 3 1 (.slice a m c) m (ic out)
  nbs : Is u u.heap.size an mn nb
  bel : Below (w.heap.size + 1) W0 u
  low : Below w.heap.size w u
theorem TBSt.len {w W0 : World} {an : Option Addr} {mn : Nat} {nb : List Int} {a : Option Addr} {m c : Nat} {out : List Int} {u : World} (h : TBSt w W0 an mn nb a m c out u) : out.length = m := by have := h.own.1; rw [ic_len] at this; omega
set_option maxRecDepth 100000 in
set_option maxHeartbeats 8000000 in
theorem tourBelow_any (es : List EdgeV) (n ne : Nat) (a : Option Addr) (c : Nat) (hne : ne ≤ 1000) (hG : gB (n : Int) es = true) (hE : ∀ e ∈ es, 0 ≤ e.1 ∧ e.1 < e.2 ∧ e.2 < (n : Int)) (f : Nat) : ∀ (v fr : Int) (seen : List Int) (w : World) (t sn : List Int), wk es n f v fr seen = some (t, sn) → t.length ≤ 1000 → Es w w.heap.size a ne es →
    Calls Tryz.prog 151 #[.agg #[.int .i64 (n : Int), .slice a ne c], .int .i64 v, .int .i64 fr] w fun e w' => ∃ a' m c', e = .returned (.slice a' m c') ∧ w'.ownsRow w.heap.size 3 1 (.slice a' m c') m (ic t) ∧ Below w.heap.size w w' := by
  have hn12 := (gB_chk hG).1
  induction f with
  | zero => intro v fr seen w t sn h; simp [wk] at h
  | succ f ih =>
    intro v fr seen w t sn hwk htl hes
    have IH := hideIt ih
    clear ih
    rw [wk, wkGo_L, nb_ar hE] at hwk
    have hb0 : Below w.heap.size w (w.alloc (.cells #[.int .i64 (n : Int), .slice a ne c] 33)) := (Below.refl _ _).alloc (Nat.le_refl _) _
    have hs0 : (w.alloc (.cells #[.int .i64 (n : Int), .slice a ne c] 33)).heap.size = w.heap.size + 1 := by simp
    have hbx : (w.alloc (.cells #[.int .i64 (n : Int), .slice a ne c] 33)).heap[w.heap.size]? = some (.cells #[.int .i64 (n : Int), .slice a ne c] 33 (0, 0)) := heap_alloc_new w _
    obtain ⟨W0, hW0⟩ : ∃ W0, W0 = w.alloc (.cells #[.int .i64 (n : Int), .slice a ne c] 33) := ⟨_, rfl⟩
    rw [← hW0] at hb0 hs0 hbx
    have hb1 : Below W0.heap.size W0 (W0.alloc (.cells #[.int .i64 v] 3)) := (Below.refl _ _).alloc (Nat.le_refl _) _
    have HBx : Hid (∀ u, Below (w.heap.size + 1) W0 u → u.cell? ⟨w.heap.size, 0, none⟩ = some (.int .i64 (n : Int)) ∧ u.cell? ⟨w.heap.size, 1, none⟩ = some (.slice a ne c)) := fun u hu =>
      ⟨by rw [hu.cell (p := ⟨w.heap.size, 0, none⟩) (by show w.heap.size < _; omega), cell_of_row _ _ 0 _ _ _ hbx]; rfl, by rw [hu.cell (p := ⟨w.heap.size, 1, none⟩) (by show w.heap.size < _; omega), cell_of_row _ _ 1 _ _ _ hbx]; rfl⟩
    rw [hs0] at hb1
    obtain ⟨x0, x1⟩ := HBx.out _ hb1
    have hB1 : Below w.heap.size w (W0.alloc (.cells #[.int .i64 v] 3)) := hb0.trans (hb1.mono (by omega))
    have HA := iAround_any (n : Int) es v ne a c (by omega) _ (hes.up hB1)
    unfold arE at HA
    rw [if_pos hG, Int.toNat_natCast] at HA
    have HAr := hideIt HA
    have hal := arS_len es v n
    have HW := hideIt hwk
    have HEs := hideIt hes
    have HB0 := hideIt hb0
    have HBs := hideIt hb1
    have HBw := hideIt hB1
    clear hes hwk HA hb0 hb1 hbx hB1
    generalize arS es v n = nb at HAr HW hal
    go_enter Tryz.func151, Tryz.ntmps151
    go_upto_region 2 with fail
    rw [← hW0]
    have HOw : Hid ((W0.alloc (.cells #[.int .i64 v] 3)).ownsRow w.heap.size 3 1 (.slice (some ⟨w.heap.size + 1, 0, none⟩) 1 1) 1 (ic [v])) := by
      have o1 := World.ownsRow_lit (base := w.heap.size) (e := 3) (size := 1) W0 #[.int .i64 v] 1 (by omega) (by unfold maxLen; omega) (by simp)
      rw [hs0] at o1
      show World.ownsRow _ _ _ _ _ _ _
      simpa [ic] using o1
    clear hW0
    go_wp2_with (go_at_call 198; refine HAr.out.mono ?_; rintro e w2 ⟨an, mn, cn, rfl, ho2, hb2⟩; refine Hid.out ?_)
    refine (show ∀ {p : Prop}, p → Hid p from fun h => h) ?_
    have I2 := Is_of_own ho2
    have hmn := I2.1
    have H0 : Hid (TBSt w W0 an mn nb (some ⟨w.heap.size + 1, 0, none⟩) 1 1 [v] w2) := by
      have hsz : (W0.alloc (.cells #[.int .i64 v] 3)).heap.size = w.heap.size + 1 + 1 := by simp [hs0]
      exact ⟨own_up HOw.out hb2, I2, HBs.out.trans (hb2.mono (by rw [hsz]; omega)), HBw.out.trans (hb2.mono (by rw [hsz]; omega))⟩
    clear HAr ho2 hb2 HOw I2 x0 x1
    go_wp2
    go_loopw [7, 16] (fun r i wr => ∃ (j m c1 : Nat) (a1 : Option Addr) (out sk : List Int), j ≤ mn ∧ i = .int .i64 (j : Int) ∧ r = .slice a1 m c1 ∧ Hid (wkL (wk es n f) v fr (nb.drop j) out sk = some (t, sn)) ∧ Hid (TBSt w W0 an mn nb a1 m c1 out wr)) (fun _ i _ => mn - (intOf i).toNat)
    case atStart => exact ⟨0, 1, 1, _, [v], v :: seen, by omega, rfl, rfl, by show _ = _; rw [List.drop_zero]; exact HW.out, H0⟩
    case round =>
      obtain ⟨j, m, c1, a1, out, sk, hj, rfl, rfl, HG, HS⟩ := hrel
      clear H0 HW
      have hml := HS.out.len
      by_cases hlt : j < mn
      · obtain ⟨x, hx⟩ : ∃ x, nb[j]? = some x := ⟨nb[j]'(by omega), List.getElem?_eq_getElem (by omega)⟩
        have hd : nb.drop j = x :: nb.drop (j + 1) := by
          rw [List.drop_eq_getElem_cons (by omega)]
          congr 1
          rw [List.getElem?_eq_getElem (by omega)] at hx
          simpa using hx
        rw [hd] at HG
        rcases HS.out.nbs.2 with hz | ⟨b, off, rfl, hbl, hcl⟩
        · omega
        · have e0 : wr.cell? ⟨b, off + j, none⟩ = some (.int .i64 x) := hcl j x hx
          have b1 : (0 : Int) ≤ (j : Int) := by omega
          have b2 : (j : Int) < (mn : Int) := by omega
          by_cases hxf : x = fr
          · have d1 : (x != fr) = false := by simpa using hxf
            have HG2 : Hid (wkL (wk es n f) v fr (nb.drop (j + 1)) out sk = some (t, sn)) := by
              have := HG.out
              rw [wkL, if_pos hxf] at this
              exact this
            clear HG hd hx hcl hxf
            go_wp2
            exact ⟨⟨j + 1, m, c1, a1, out, sk, by omega, by go_num, rfl, HG2, HS⟩, by simp [intOf]; omega⟩
          · have d1 : (x != fr) = true := by simpa using hxf
            obtain ⟨p, hp, hgo⟩ := wkL_go hxf HG.out
            have hln := wkL_len hgo
            simp at hln
            have HG2 := hideIt hgo
            have HR := hideIt (IH.out x v sk wr p.1 p.2 hp (by omega) (HEs.out.up HS.out.low))
            obtain ⟨y0, y1⟩ := HBx.out wr HS.out.bel
            clear HG hd hx hcl hxf hp hgo
            go_wp2_with (go_at_call 151; refine HR.out.mono ?_; rintro e w4 ⟨a4, m4, c4, rfl, ho4, hb4⟩; refine Hid.out ?_)
            refine (show ∀ {p : Prop}, p → Hid p from fun h => h) ?_
            have I4 := Is_of_own ho4
            have hm4 : p.1.length = m4 := I4.1
            have T4 : Is w4 w4.heap.size a1 m out := (Is_of_own HS.out.own).up hb4
            have hz4 : w.heap.size + 1 ≤ wr.heap.size := by have := HS.out.bel.size; rw [hs0] at this; exact this
            have hz5 := hb4.size
            have HL : Hid (Calls Tryz.prog 199 #[.slice (some ⟨w4.heap.size + 1, 0, none⟩) 3 3] ((w4.alloc (.cells #[.int .i64 v] 3)).alloc (.cells #[.slice a1 m c1, .slice a4 m4 c4, .slice (some ⟨w4.heap.size, 0, none⟩) 1 1] 44))
                fun e u => ∃ g mm, e = .returned (.slice (some ⟨g, 0, none⟩) mm mm) ∧ TBSt w W0 (some ⟨b, off, none⟩) mn nb (some ⟨g, 0, none⟩) mm mm (out ++ p.1 ++ [v]) u) := by
              have hb0 : Below w4.heap.size w4 (w4.alloc (.cells #[.int .i64 v] 3)) := (Below.refl _ _).alloc (Nat.le_refl _) _
              have hP0 := parts3 (p1 := ⟨a1, m, c1, out⟩) (p2 := ⟨a4, m4, c4, p.1⟩) (p3 := ⟨some ⟨w4.heap.size, 0, none⟩, 1, 1, [v]⟩) (T4.up hb0) (I4.up hb0) (Is.single w4 v)
              have hs : (w4.alloc (.cells #[.int .i64 v] 3)).heap.size = w4.heap.size + 1 := by simp
              rw [hs] at hP0
              have hP : PartsI ((w4.alloc (.cells #[.int .i64 v] 3)).alloc (.cells #[.slice a1 m c1, .slice a4 m4 c4, .slice (some ⟨w4.heap.size, 0, none⟩) 1 1] 44)) (w4.heap.size + 1) [⟨a1, m, c1, out⟩, ⟨a4, m4, c4, p.1⟩, ⟨some ⟨w4.heap.size, 0, none⟩, 1, 1, [v]⟩] := hP0
              refine (laid_any _ _ 3 rfl (by omega) _ hP (by simp [qLen]; omega)).mono fun e u ⟨g, mm, he, ho, hb⟩ => ⟨g, mm, he, ?_⟩
              have hq : qAll [⟨a1, m, c1, out⟩, ⟨a4, m4, c4, p.1⟩, ⟨some ⟨w4.heap.size, 0, none⟩, 1, 1, [v]⟩] = out ++ p.1 ++ [v] := by simp [qAll]
              rw [hq] at ho
              have hbu : Below wr.heap.size wr u := (hb4.trans ((hb0.alloc (by simp) _).mono hz5)).trans (hb.mono (by simp; omega))
              exact ⟨own_mono ho (by simp; omega), HS.out.nbs.up hbu, HS.out.bel.trans (hbu.mono hz4), HS.out.low.trans (hbu.mono (by omega))⟩
            clear HR ho4 hb4 I4 T4 HS y0 y1 e0
            go_wp2_with (go_at_call 199; refine HL.out.mono ?_; rintro e w6 ⟨g6, m6, rfl, S6⟩)
            exact ⟨⟨j + 1, m6, m6, _, _, p.2, by omega, by go_num, rfl, HG2, hideIt S6⟩, by simp [intOf]; omega⟩
      · obtain rfl : j = mn := by omega
        have HT : Hid (out = t ∧ sk = sn) := by
          show _ ∧ _
          have := HG.out
          rw [List.drop_of_length_le (by omega), wkL] at this
          simpa using this
        clear HG
        go_wp2
        go_ret
        exact ⟨a1, m, c1, rfl, by rw [← HT.out.1]; exact HS.out.own, HS.out.low⟩
end Go.Proofs.YtpfkfbmghddepaaGreat
namespace Go.Proofs.YtpfkfbmghddepaaGreat
open Go.RowKit

theorem chk_of {n : Int} {es : List EdgeV} (h1 : ∀ e ∈ es, eB n e = true) (h2 : Asc es) : chk n es = true := chk_yes fun j hj => by
  have he : es[j]? = some es[j] := List.getElem?_eq_getElem hj
  have hb := h1 _ (List.getElem_mem hj)
  cases j with
  | zero => rw [chkAt_zero he]; exact hb
  | succ i =>
    have hd : es[i]? = some (es[i]'(by omega)) := List.getElem?_eq_getElem (by omega)
    rw [chkAt_succ he hd, hb, h2 i (i + 1) _ _ (by omega) hd he]
    rfl

end Go.Proofs.YtpfkfbmghddepaaGreat
namespace Go.Proofs.YtpfkfbmghddepaaGreat
open Go.RowKit

theorem wkGo_congr {rec : Int → Int → List Int → Option (List Int × List Int)} {es es' : List EdgeV} (h : ∀ e, e ∈ es ↔ e ∈ es') (n : Nat) (v fr : Int) (rem : Nat) (out seen : List Int) : wkGo rec es n v fr rem out seen = wkGo rec es' n v fr rem out seen := by
  induction rem generalizing out seen with
  | zero => rfl
  | succ rem ih =>
    rw [wkGo, wkGo]
    by_cases hc : ((n - (rem + 1) : Nat) : Int) = fr ∨ mkE v ((n - (rem + 1) : Nat) : Int) ∉ es
    · rw [if_pos hc, if_pos (by rw [← h]; exact hc)]; exact ih _ _
    · have hc' : ¬ (((n - (rem + 1) : Nat) : Int) = fr ∨ mkE v ((n - (rem + 1) : Nat) : Int) ∉ es') := by rw [← h]; exact hc
      rw [if_neg hc, if_neg hc']
      by_cases hs : ((n - (rem + 1) : Nat) : Int) ∈ seen
      · rw [if_pos hs, if_pos hs]
      · rw [if_neg hs, if_neg hs]
        cases rec ((n - (rem + 1) : Nat) : Int) v seen with
        | none => rfl
        | some x => exact ih _ _
theorem wk_congr {es es' : List EdgeV} (h : ∀ e, e ∈ es ↔ e ∈ es') (n f : Nat) : wk es n f = wk es' n f := by
  induction f with
  | zero => rfl
  | succ f ih =>
    funext v fr seen
    rw [wk, wk, ih]
    exact wkGo_congr h n v fr n _ _
theorem wkGo_root {rec : Int → Int → List Int → Option (List Int × List Int)} {es : List EdgeV} (n : Nat) {v : Int} (hv : mkE v v ∉ es) (rem : Nat) (out seen : List Int) : wkGo rec es n v v rem out seen = wkGo rec es n v (-1) rem out seen := by
  induction rem generalizing out seen with
  | zero => rfl
  | succ rem ih =>
    rw [wkGo, wkGo]
    by_cases hc : mkE v ((n - (rem + 1) : Nat) : Int) ∉ es
    · rw [if_pos (.inr hc), if_pos (.inr hc)]; exact ih _ _
    · have c1 : ¬ (((n - (rem + 1) : Nat) : Int) = v ∨ mkE v ((n - (rem + 1) : Nat) : Int) ∉ es) := by
        rintro (h1 | h1)
        · exact hc (by rw [h1]; exact hv)
        · exact hc h1
      have c2 : ¬ (((n - (rem + 1) : Nat) : Int) = -1 ∨ mkE v ((n - (rem + 1) : Nat) : Int) ∉ es) := by
        rintro (h1 | h1)
        · omega
        · exact hc h1
      rw [if_neg c1, if_neg c2]
      by_cases hs : ((n - (rem + 1) : Nat) : Int) ∈ seen
      · rw [if_pos hs, if_pos hs]
      · rw [if_neg hs, if_neg hs]
        cases rec ((n - (rem + 1) : Nat) : Int) v seen with
        | none => rfl
        | some x => exact ih _ _
theorem wk_root {es : List EdgeV} (n f : Nat) {v : Int} (hv : mkE v v ∉ es) (seen : List Int) : wk es n f v v seen = wk es n f v (-1) seen := by
  cases f with
  | zero => rfl
  | succ f => rw [wk, wk]; exact wkGo_root n hv n _ _

theorem b_no {b : Bool} {p : Prop} (h : b = true ↔ p) (hn : ¬ p) : b = false := by
  cases b with
  | false => rfl
  | true => exact absurd (h.1 rfl) hn
set_option maxRecDepth 100000 in
set_option maxHeartbeats 4000000 in
theorem iTourOf_no (es : List EdgeV) (ne : Nat) (a : Option Addr) (c : Nat) (r : Int) (hne : ne ≤ 1000) (hok : ∀ e ∈ es, eB 12 e = true) (hT : ¬ TreeP es) (w : World) (h : Es w w.heap.size a ne es) :
    Calls Tryz.prog 91 #[.int .i64 12, .slice a ne c, .int .i64 r] w fun e w' => e = .returned (.tuple #[.slice none 0 0, .bool false]) ∧ Below w.heap.size w w' := by
  have HT0 := treesOk_any 12 es ne a c (by omega) (by omega) hne hok w h
  rw [show (((12 : Nat)) : Int) = 12 from rfl] at HT0
  have HT := hideIt HT0
  clear HT0
  have HN := hideIt hT
  clear h hok hT
  go_enter Tryz.func91, Tryz.ntmps91
  go_wp2_with (go_at_call 149; refine HT.out.mono ?_; rintro e w1 ⟨b, rfl, hb, hb1⟩; obtain rfl : b = false := b_no hb HN.out; refine Hid.out ?_)
  refine (show ∀ {p : Prop}, p → Hid p from fun h => h) ?_
  clear HT hb
  go_wp2
  go_ret2
  exact ⟨rfl, hb1⟩

set_option maxRecDepth 100000 in
set_option maxHeartbeats 4000000 in
theorem iTourOf_yes (es : List EdgeV) (ne : Nat) (a : Option Addr) (c : Nat) (r : Int) (t sn : List Int) (hne : ne ≤ 66) (hok : ∀ e ∈ es, eB 12 e = true) (hnd : es.Nodup) (hT : TreeP es) (hr0 : 0 ≤ r) (hr1 : r < 12) (hwk : wk es 12 12 r (-1) [] = some (t, sn)) (htl : t.length ≤ 1000) (w : World) (h : Es w w.heap.size a ne es) :
    Calls Tryz.prog 91 #[.int .i64 12, .slice a ne c, .int .i64 r] w fun e w' => ∃ a' m c', e = .returned (.tuple #[.slice a' m c', .bool true]) ∧ w'.ownsRow w.heap.size 3 1 (.slice a' m c') m (ic t) ∧ Below w.heap.size w w' := by
  have HT0 := treesOk_any 12 es ne a c (by omega) (by omega) (by omega) hok w h
  rw [show (((12 : Nat)) : Int) = 12 from rfl] at HT0
  have HTr := hideIt HT0
  clear HT0
  have HY := hideIt hT
  have hlen := h.1
  have hE : ∀ e ∈ es, 0 ≤ e.1 ∧ e.1 < e.2 ∧ e.2 < ((12 : Nat) : Int) := fun e he => by have := hok e he; unfold eB at this; have := of_decide_eq_true this; omega
  have hGB : gB ((12 : Nat) : Int) (srtE es) = true := by
    unfold gB
    rw [show (((12 : Nat)) : Int) = 12 from rfl, chk_of (fun e he => hok e ((srtE_mem es e).1 he)) (srtE_asc hnd), decide_eq_true (show (1 : Int) ≤ 12 ∧ (12 : Int) ≤ 12 by omega), decide_eq_true (show (srtE es).length ≤ 66 by rw [srtE_len]; omega)]
    rfl
  have hvv : mkE r r ∉ srtE es := fun hm => by
    have := hE _ ((srtE_mem es _).1 hm)
    unfold mkE at this
    rw [if_neg (by omega)] at this
    simp at this
  have hwk2 : wk (srtE es) 12 12 r r [] = some (t, sn) := by rw [wk_root 12 12 hvv, wk_congr (srtE_mem es) 12 12]; exact hwk
  have HTB : Hid (∀ (m : Nat) (a : Option Addr) (c : Nat) (u : World), m ≤ 1000 → Es u u.heap.size a m (srtE es) → Calls Tryz.prog 151 #[.agg #[.int .i64 12, .slice a m c], .int .i64 r, .int .i64 r] u fun e w' => ∃ a' m c', e = .returned (.slice a' m c') ∧ w'.ownsRow u.heap.size 3 1 (.slice a' m c') m (ic t) ∧ Below u.heap.size u w') := (fun (m : Nat) (a : Option Addr) (c : Nat) (u : World) (hm : m ≤ 1000) (hu : Es u u.heap.size a m (srtE es)) => tourBelow_any (srtE es) 12 m a c hm hGB (fun e he => hE e ((srtE_mem es e).1 he)) 12 r r [] u t sn hwk2 htl hu)
  have HEs := hideIt h
  have d1 : decide (r < 0) = false := decide_eq_false (by omega)
  have d2 : decide (12 ≤ r) = false := decide_eq_false (by omega)
  clear h hok hT hnd hE hGB hvv hwk2 hwk
  go_enter Tryz.func91, Tryz.ntmps91
  go_wp2_with (go_at_call 149; refine HTr.out.mono ?_; rintro e w1 ⟨b, rfl, hb, hb1⟩; obtain rfl : b = true := hb.2 HY.out; refine Hid.out ?_)
  refine (show ∀ {p : Prop}, p → Hid p from fun h => h) ?_
  have HV := hideIt (valuesE_any a ne c w1)
  have hba : Below w1.heap.size w1 (w1.alloc (.cells #[.slice a ne c] 31)) := (Below.refl _ _).alloc (Nat.le_refl _) _
  have HS := hideIt (sortedFE_any es ne a c w1.heap.size (by omega) (w1.alloc (.cells #[.slice a ne c] 31)) (by simp) (by simp) ((HEs.out.up hb1).up hba))
  have HB1 := hideIt (hb1.trans (hba.mono hb1.size))
  have z1 := hb1.size
  clear HTr hb hb1 hba
  go_wp2_with (first | (go_at_call 110; refine HV.out.mono ?_; rintro e w2 ⟨rfl, rfl⟩) | (go_at_call 109; refine HS.out.mono ?_; rintro e w3 ⟨a3, c3, rfl, ho3, hb3⟩; refine Hid.out ?_))
  refine (show ∀ {p : Prop}, p → Hid p from fun h => h) ?_
  have B3 := HB1.out.trans (hb3.mono (by simp; omega))
  have hbx : Below w3.heap.size w3 (w3.alloc (.cells #[.int .i64 12, .slice a3 ne c3] 33)) := (Below.refl _ _).alloc (Nat.le_refl _) _
  have HX := hideIt (HTB.out ne a3 c3 _ (by omega) ((Es_of_own ho3).up hbx))
  have HB4 := hideIt (B3.trans (hbx.mono B3.size))
  have z3 := B3.size
  clear HV HS ho3 hb3 B3 hbx HTB
  go_wp2_with (go_at_call 151; refine HX.out.mono ?_; rintro e w5 ⟨a5, m5, c5, rfl, ho5, hb5⟩)
  go_ret2
  exact ⟨a5, m5, c5, rfl, own_mono ho5 (by simp; omega), HB4.out.trans (hb5.mono (by simp; omega))⟩
end Go.Proofs.YtpfkfbmghddepaaGreat
namespace Go.Proofs.YtpfkfbmghddepaaGreat
open Go.RowKit

set_option maxRecDepth 100000 in
set_option maxHeartbeats 4000000 in
theorem iTourOf_n (es : List EdgeV) (nn ne : Nat) (hn1 : 1 ≤ nn) (hn12 : nn ≤ 12) (a : Option Addr) (c : Nat) (r : Int) (t sn : List Int) (hne : ne ≤ 66) (hok : ∀ e ∈ es, eB (nn : Int) e = true) (hnd : es.Nodup) (hT : TreeP es) (hr0 : 0 ≤ r) (hr1 : r < (nn : Int)) (hwk : wk es nn nn r (-1) [] = some (t, sn)) (htl : t.length ≤ 1000) (w : World) (h : Es w w.heap.size a ne es) :
    Calls Tryz.prog 91 #[.int .i64 (nn : Int), .slice a ne c, .int .i64 r] w fun e w' => ∃ a' m c', e = .returned (.tuple #[.slice a' m c', .bool true]) ∧ w'.ownsRow w.heap.size 3 1 (.slice a' m c') m (ic t) ∧ Below w.heap.size w w' := by
  have HTr := hideIt (treesOk_any nn es ne a c (by omega) (by omega) (by omega) hok w h)
  have HY := hideIt hT
  have hlen := h.1
  have hE : ∀ e ∈ es, 0 ≤ e.1 ∧ e.1 < e.2 ∧ e.2 < (nn : Int) := fun e he => by have := hok e he; unfold eB at this; have := of_decide_eq_true this; omega
  have hGB : gB (nn : Int) (srtE es) = true := by
    unfold gB
    rw [chk_of (fun e he => hok e ((srtE_mem es e).1 he)) (srtE_asc hnd), decide_eq_true (show (1 : Int) ≤ (nn : Int) ∧ (nn : Int) ≤ 12 by omega), decide_eq_true (show (srtE es).length ≤ 66 by rw [srtE_len]; omega)]
    rfl
  have hvv : mkE r r ∉ srtE es := fun hm => by
    have := hE _ ((srtE_mem es _).1 hm)
    unfold mkE at this
    rw [if_neg (by omega)] at this
    simp at this
  have hwk2 : wk (srtE es) nn nn r r [] = some (t, sn) := by rw [wk_root nn nn hvv, wk_congr (srtE_mem es) nn nn]; exact hwk
  have HTB : Hid (∀ (m : Nat) (a : Option Addr) (c : Nat) (u : World), m ≤ 1000 → Es u u.heap.size a m (srtE es) → Calls Tryz.prog 151 #[.agg #[.int .i64 (nn : Int), .slice a m c], .int .i64 r, .int .i64 r] u fun e w' => ∃ a' m c', e = .returned (.slice a' m c') ∧ w'.ownsRow u.heap.size 3 1 (.slice a' m c') m (ic t) ∧ Below u.heap.size u w') := (fun (m : Nat) (a : Option Addr) (c : Nat) (u : World) (hm : m ≤ 1000) (hu : Es u u.heap.size a m (srtE es)) => tourBelow_any (srtE es) nn m a c hm hGB (fun e he => hE e ((srtE_mem es e).1 he)) nn r r [] u t sn hwk2 htl hu)
  have HEs := hideIt h
  have d1 : decide (r < 0) = false := decide_eq_false (by omega)
  have d2 : decide ((nn : Int) ≤ r) = false := decide_eq_false (by omega)
  clear h hok hT hnd hE hGB hvv hwk2 hwk
  go_enter Tryz.func91, Tryz.ntmps91
  go_wp2_with (go_at_call 149; refine HTr.out.mono ?_; rintro e w1 ⟨b, rfl, hb, hb1⟩; obtain rfl : b = true := hb.2 HY.out; refine Hid.out ?_)
  refine (show ∀ {p : Prop}, p → Hid p from fun h => h) ?_
  have HV := hideIt (valuesE_any a ne c w1)
  have hba : Below w1.heap.size w1 (w1.alloc (.cells #[.slice a ne c] 31)) := (Below.refl _ _).alloc (Nat.le_refl _) _
  have HS := hideIt (sortedFE_any es ne a c w1.heap.size (by omega) (w1.alloc (.cells #[.slice a ne c] 31)) (by simp) (by simp) ((HEs.out.up hb1).up hba))
  have HB1 := hideIt (hb1.trans (hba.mono hb1.size))
  have z1 := hb1.size
  clear HTr hb hb1 hba
  go_wp2_with (first | (go_at_call 110; refine HV.out.mono ?_; rintro e w2 ⟨rfl, rfl⟩) | (go_at_call 109; refine HS.out.mono ?_; rintro e w3 ⟨a3, c3, rfl, ho3, hb3⟩; refine Hid.out ?_))
  refine (show ∀ {p : Prop}, p → Hid p from fun h => h) ?_
  have B3 := HB1.out.trans (hb3.mono (by simp; omega))
  have hbx : Below w3.heap.size w3 (w3.alloc (.cells #[.int .i64 (nn : Int), .slice a3 ne c3] 33)) := (Below.refl _ _).alloc (Nat.le_refl _) _
  have HX := hideIt (HTB.out ne a3 c3 _ (by omega) ((Es_of_own ho3).up hbx))
  have HB4 := hideIt (B3.trans (hbx.mono B3.size))
  have z3 := B3.size
  clear HV HS ho3 hb3 B3 hbx HTB
  go_wp2_with (go_at_call 151; refine HX.out.mono ?_; rintro e w5 ⟨a5, m5, c5, rfl, ho5, hb5⟩)
  go_ret2
  exact ⟨a5, m5, c5, rfl, own_mono ho5 (by simp; omega), HB4.out.trans (hb5.mono (by simp; omega))⟩
end Go.Proofs.YtpfkfbmghddepaaGreat
