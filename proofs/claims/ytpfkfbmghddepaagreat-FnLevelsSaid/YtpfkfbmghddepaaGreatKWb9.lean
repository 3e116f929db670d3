/- The trees of a list of edges, each walked from its least vertex: pure. Right graphs, as lists. The edges of a forest, its parts, the place of a vertex: pure. A forest linked and cut again: pure. The place of a vertex's tour: pure. Webs as lists of edges with their levels: pure. -/
import Derived.Test.YtpfkfbmghddepaaGreatKLk7
import Derived.Test.YtpfkfbmghddepaaGreatKMem6
import Derived.Test.YtpfkfbmghddepaaGreatKSTour
import Derived.Test.YtpfkfbmghddepaaGreatKLd9
namespace Go.Proofs.YtpfkfbmghddepaaGreat
open Go.RowKit

def ftK (es : List EdgeV) (n : Nat) : Nat → Option (List (List Int))
  | 0 => some []
  | k + 1 => match ftK es n k with
    | none => none
    | some ts => if (k : Int) ∈ ts.flatten then some ts else match wk es n n (k : Int) (-1) [] with
      | none => none
      | some p => some (ts ++ [p.1])
theorem ftK_there {es : List EdgeV} {n k : Nat} {ts : List (List Int)} (h : ftK es n k = some ts) (hk : (k : Int) ∈ ts.flatten) : ftK es n (k + 1) = some ts := by simp only [ftK, h]; rw [if_pos hk]
theorem ftK_new {es : List EdgeV} {n k : Nat} {ts : List (List Int)} {t sn : List Int} (h : ftK es n k = some ts) (hk : (k : Int) ∉ ts.flatten) (hw : wk es n n (k : Int) (-1) [] = some (t, sn)) : ftK es n (k + 1) = some (ts ++ [t]) := by simp only [ftK, h]; rw [if_neg hk, hw]
theorem ftK_ring {es : List EdgeV} {n k : Nat} {ts : List (List Int)} (h : ftK es n k = some ts) (hk : (k : Int) ∉ ts.flatten) (hw : wk es n n (k : Int) (-1) [] = none) : ftK es n (k + 1) = none := by simp only [ftK, h]; rw [if_neg hk, hw]
theorem ftK_none {es : List EdgeV} {n k : Nat} (h : ftK es n k = none) (m : Nat) (hm : k ≤ m) : ftK es n m = none := by
  induction m with
  | zero => obtain rfl : k = 0 := by omega
            exact h
  | succ m ih =>
    by_cases e : k = m + 1
    · subst e; exact h
    · simp only [ftK, ih (by omega)]
theorem ftK_back {es : List EdgeV} {n k : Nat} {ts : List (List Int)} (h : ftK es n (k + 1) = some ts) : ∃ ts', ftK es n k = some ts' := by
  cases h2 : ftK es n k with
  | none => rw [ftK_none h2 (k + 1) (by omega)] at h; cases h
  | some ts' => exact ⟨ts', rfl⟩

structure FtIs (es : List EdgeV) (n k : Nat) (ts : List (List Int)) : Prop where
  tour : ∀ t ∈ ts, ∃ r : Nat, r < k ∧ (∃ sn, wk es n n (r : Int) (-1) [] = some (t, sn)) ∧ t.head? = some (r : Int) ∧ (∀ x ∈ t, (r : Int) ≤ x)
  cov : ∀ v : Nat, v < k → (v : Int) ∈ ts.flatten
  asc : ts.Pairwise fun s t => s.headD 0 < t.headD 0
  apart : ts.Pairwise Apart
theorem ft_any {es : List EdgeV} {n : Nat} (hE : ∀ e ∈ es, 0 ≤ e.1 ∧ e.1 < e.2 ∧ e.2 < (n : Int)) (hn : n ≤ 12) (k : Nat) (hk : k ≤ n) : ∀ {ts : List (List Int)}, ftK es n k = some ts → FtIs es n k ts := by
  induction k with
  | zero =>
    intro ts h
    simp only [ftK, Option.some.injEq] at h
    subst h
    exact ⟨by simp, by omega, List.Pairwise.nil, List.Pairwise.nil⟩
  | succ k ih =>
    intro ts h
    obtain ⟨ts', h'⟩ := ftK_back h
    have hi := ih (by omega) h'
    by_cases hm : (k : Int) ∈ ts'.flatten
    · rw [ftK_there h' hm] at h
      obtain rfl := Option.some.inj h
      refine ⟨fun t ht => ?_, fun v hv => ?_, hi.asc, hi.apart⟩
      · obtain ⟨r, h1, h2⟩ := hi.tour t ht
        exact ⟨r, by omega, h2⟩
      · by_cases e : v = k
        · subst e; exact hm
        · exact hi.cov v (by omega)
    · cases hw : wk es n n (k : Int) (-1) [] with
      | none => rw [ftK_ring h' hm hw] at h; cases h
      | some p =>
        obtain ⟨t, sn⟩ := p
        rw [ftK_new h' hm hw] at h
        obtain rfl := Option.some.inj h
        obtain ⟨hB, hh, hr, hcl, _⟩ := wk_tree hE hn (by omega) (by omega) hw
        have hkt : (k : Int) ∈ t := by
          cases t with
          | nil => simp at hh
          | cons a t => simp at hh; simp [hh]
        have hap : ∀ s ∈ ts', Apart s t := fun s hs x hx hxt => by
          obtain ⟨r, h1, ⟨sn2, h2⟩, h3, h4⟩ := hi.tour s hs
          obtain ⟨hB2, hh2, hr2, hcl2, _⟩ := wk_tree hE hn (by omega) (by omega) h2
          have h5 : (x ∈ s ↔ (k : Int) ∈ s) := by
            have hst := fun e (he : e ∈ tE t) => (show e.1 ∈ s ↔ e.2 ∈ s from by
              exact hcl2 e (wk_along hE n (k : Int) (-1) [] t sn hw e he))
            exact tE_all hB hst hxt hkt
          exact hm (List.mem_flatten.2 ⟨s, hs, h5.1 hx⟩)
        have hlow : ∀ x ∈ t, (k : Int) ≤ x := fun x hx => Classical.byContradiction fun hlt => by
          have hx0 := hr x hx
          have := hi.cov x.toNat (by omega)
          rw [Int.toNat_of_nonneg hx0.1] at this
          obtain ⟨s, hs, hxs⟩ := List.mem_flatten.1 this
          exact hap s hs x hxs hx
        refine ⟨fun s hs => ?_, fun v hv => ?_, ?_, ?_⟩
        · rcases List.mem_append.1 hs with hs | hs
          · obtain ⟨r, h1, h2⟩ := hi.tour s hs
            exact ⟨r, by omega, h2⟩
          · simp at hs
            subst hs
            exact ⟨k, by omega, ⟨sn, hw⟩, hh, hlow⟩
        · by_cases e : v = k
          · subst e; simp [hkt]
          · have := hi.cov v (by omega)
            simp [List.mem_flatten.1 this]
        · rw [List.pairwise_append]
          refine ⟨hi.asc, by simp, fun s hs u hu => ?_⟩
          simp at hu
          subst hu
          obtain ⟨r, h1, _, h3, _⟩ := hi.tour s hs
          cases s with
          | nil => simp at h3
          | cons a s => cases u with
            | nil => simp at hh
            | cons b u => simp at h3 hh ⊢; omega
        · rw [List.pairwise_append]
          refine ⟨hi.apart, by simp, fun s hs u hu => ?_⟩
          simp at hu
          subst hu
          exact hap s hs
theorem ft_some {es : List EdgeV} {n : Nat} (hE : ∀ e ∈ es, 0 ≤ e.1 ∧ e.1 < e.2 ∧ e.2 < (n : Int)) (hBr : Bridge es) (k : Nat) (hk : k ≤ n) : ∃ ts, ftK es n k = some ts := by
  induction k with
  | zero => exact ⟨[], rfl⟩
  | succ k ih =>
    obtain ⟨ts, h⟩ := ih (by omega)
    by_cases hm : (k : Int) ∈ ts.flatten
    · exact ⟨ts, ftK_there h hm⟩
    · obtain ⟨t, sn, h1, _⟩ := wk_ok hE hBr n (k : Int) (-1) [] (by omega) (by omega) (by simp) (by simp) (by simp) ⟨fun _ => True, trivial, by simp, by simp⟩
      exact ⟨_, ftK_new h hm h1⟩
/-- the tours of trees: what they tell -/
structure FtAll (es : List EdgeV) (n : Nat) (ts : List (List Int)) : Prop where
  fp : FP (n : Int) ts
  mn : ∀ t ∈ ts, t.head? = some (mnV t)
  conn : ∀ t ∈ ts, ∀ x ∈ t, ∀ y : Int, y ∈ t ↔ Conn es x y
  cov : ∀ v : Int, 0 ≤ v → v < (n : Int) → ∃ t ∈ ts, v ∈ t
  edge : ∀ e ∈ es, ∀ t ∈ ts, e.1 ∈ t → e ∈ tE t
theorem mn_leF {t : List Int} (hB : tB t = true) {x : Int} (hx : x ∈ t) : mnV t ≤ x := by
  have h := vs_pos hB
  have h0 : (vsL t)[0]? = some ((vsL t)[0]'h) := List.getElem?_eq_getElem h
  rw [mn_first h0]
  obtain ⟨p, hp, e⟩ := List.getElem_of_mem ((vs_mem_of hB).2 hx)
  by_cases e0 : p = 0
  · subst e0; omega
  · have := List.pairwise_iff_getElem.1 (vsK_asc t 12) 0 p h hp (by omega)
    rw [show (vsK t 12)[p]'hp = x from e] at this
    exact Int.le_of_lt this
theorem cnt_all {n : Nat} {ts : List (List Int)} (hn : n ≤ 12) (hap : ts.Pairwise Apart) (hr : ∀ t ∈ ts, ∀ x ∈ t, 0 ≤ x ∧ x < (n : Int)) (hc : ∀ v : Nat, v < n → (v : Int) ∈ ts.flatten) : cnt ts = n := by
  have e : cnt ts = (ts.map vsL).flatten.length := by rw [List.length_flatten, List.map_map]; rfl
  have hvs : ∀ t ∈ ts, ∀ x, x ∈ vsL t ↔ x ∈ t := fun t ht x => by
    rw [vsL_mem]
    exact ⟨fun h => h.2, fun h => ⟨by have := hr t ht x h; simp [vB]; omega, h⟩⟩
  have hnd : (ts.map vsL).flatten.Nodup := by
    unfold List.Nodup
    rw [List.pairwise_flatten]
    refine ⟨fun l hl => ?_, ?_⟩
    · obtain ⟨t, ht, rfl⟩ := List.mem_map.1 hl
      exact vs_nodup t
    · rw [List.pairwise_map]
      refine hap.imp_of_mem fun hs ht h x hx y hy e => ?_
      subst e
      exact h x ((hvs _ hs x).1 hx) ((hvs _ ht x).1 hy)
  have hm : ∀ x, x ∈ (ts.map vsL).flatten ↔ x ∈ (List.range n).map fun j : Nat => (j : Int) := fun x => by
    rw [List.mem_flatten, List.mem_map]
    constructor
    · rintro ⟨l, hl, hx⟩
      obtain ⟨t, ht, rfl⟩ := List.mem_map.1 hl
      have := hr t ht x ((hvs t ht x).1 hx)
      exact ⟨x.toNat, List.mem_range.2 (by omega), by omega⟩
    · rintro ⟨j, hj, rfl⟩
      obtain ⟨t, ht, hx⟩ := List.mem_flatten.1 (hc j (List.mem_range.1 hj))
      exact ⟨vsL t, List.mem_map.2 ⟨t, ht, rfl⟩, (hvs t ht _).2 hx⟩
  have hrn : ((List.range n).map fun j : Nat => (j : Int)).Nodup := by
    unfold List.Nodup
    rw [List.pairwise_map]
    exact (List.nodup_range (n := n)).imp fun h e => h (by omega)
  have h1 := nodup_sub hnd fun x hx => (hm x).1 hx
  have h2 := nodup_sub hrn fun x hx => (hm x).2 hx
  rw [e]
  simp at h1 h2
  simp
  omega
theorem ft_all {es : List EdgeV} {n : Nat} (hE : ∀ e ∈ es, 0 ≤ e.1 ∧ e.1 < e.2 ∧ e.2 < (n : Int)) (hn1 : 1 ≤ n) (hn : n ≤ 12) {ts : List (List Int)} (h : ftK es n n = some ts) : FtAll es n ts := by
  have hi := ft_any hE hn n (Nat.le_refl _) h
  have htr : ∀ t ∈ ts, tB t = true ∧ t.head? = some (mnV t) ∧ (∀ x ∈ t, 0 ≤ x ∧ x < (n : Int)) ∧ (∀ x ∈ t, ∀ y : Int, y ∈ t ↔ Conn es x y) ∧ (∀ e ∈ es, e.1 ∈ t → e ∈ tE t) := fun t ht => by
    obtain ⟨r, h1, ⟨sn, h2⟩, h3, h4⟩ := hi.tour t ht
    obtain ⟨hB, hh, hr, hcl, hal⟩ := wk_tree hE hn (by omega) (by omega) h2
    have hrt : (r : Int) ∈ t := by
      cases t with
      | nil => simp at hh
      | cons a t => simp at hh; simp [hh]
    have hmn : mnV t = (r : Int) := by
      have a := mn_leF hB hrt
      have b := h4 _ (mn_mem hB)
      omega
    refine ⟨hB, by rw [hmn]; exact hh, hr, fun x hx y => ⟨fun hy => ?_, fun hc => hc (fun z => z ∈ t) hcl hx⟩, hal⟩
    exact fun S hS hSx => (tE_all hB (S := S) (fun e he => hS e (wk_along hE n (r : Int) (-1) [] t sn h2 e he)) hx hy).1 hSx
  have hcnt := cnt_all hn hi.apart (fun t ht => (htr t ht).2.2.1) hi.cov
  refine ⟨(FP_iff _ _).2 ⟨by omega, by omega, ⟨fun t ht => ⟨(htr t ht).1, fun x hx => ((htr t ht).2.2.1 x hx).2⟩, hi.apart, by omega⟩, ?_⟩, fun t ht => (htr t ht).2.1, fun t ht => (htr t ht).2.2.2.1, fun v h0 h1 => ?_, fun e he t ht => (htr t ht).2.2.2.2 e he⟩
  · refine hi.asc.imp_of_mem fun {s t} hs ht hlt => ?_
    have e1 := (htr s hs).2.1
    have e2 := (htr t ht).2.1
    cases s with
    | nil => simp at e1
    | cons a s => cases t with
      | nil => simp at e2
      | cons b t => simp at e1 e2 hlt; omega
  · have := hi.cov v.toNat (by omega)
    rw [Int.toNat_of_nonneg h0] at this
    obtain ⟨t, ht, hv⟩ := List.mem_flatten.1 this
    exact ⟨t, ht, hv⟩
/-- no walk met a ring: there is none -/
theorem ft_bridge {es : List EdgeV} {n : Nat} (hE : ∀ e ∈ es, 0 ≤ e.1 ∧ e.1 < e.2 ∧ e.2 < (n : Int)) (hn1 : 1 ≤ n) (hn : n ≤ 12) {ts : List (List Int)} (h : ftK es n n = some ts) : Bridge es := fun e he => by
  have ha := ft_all hE hn1 hn h
  have hee := hE e he
  obtain ⟨t, ht, h1⟩ := ha.cov e.1 (by omega) (by omega)
  have hB : tB t = true := ((FP_iff _ _).1 ha.fp).2.2.1.1 t ht |>.1
  obtain ⟨S, a, b, c⟩ := tE_bridge hB e (ha.edge e he t ht h1)
  have h2 : e.2 ∈ t := (ha.conn t ht e.1 h1 e.2).2 (Conn.edge he)
  refine ⟨fun x => S x ∧ x ∈ t, ⟨a, h2⟩, fun h => b h.1, fun d hd hne => ?_⟩
  by_cases hdt : d.1 ∈ t
  · have hd2 : d.2 ∈ t := (ha.conn t ht d.1 hdt d.2).2 (Conn.edge hd)
    have := c d (ha.edge d hd t ht hdt) hne
    exact ⟨fun h => ⟨this.1 h.1, hd2⟩, fun h => ⟨this.2 h.1, hdt⟩⟩
  · have hd2 : d.2 ∉ t := fun h3 => hdt ((ha.conn t ht d.2 h3 d.1).2 (Conn.edge hd).symm)
    exact ⟨fun h => absurd h.2 hdt, fun h => absurd h.2 hd2⟩
theorem ft_iff {es : List EdgeV} {n : Nat} (hE : ∀ e ∈ es, 0 ≤ e.1 ∧ e.1 < e.2 ∧ e.2 < (n : Int)) (hn1 : 1 ≤ n) (hn : n ≤ 12) : (∃ ts, ftK es n n = some ts) ↔ Bridge es :=
  ⟨fun ⟨_, h⟩ => ft_bridge hE hn1 hn h, fun h => ft_some hE h n (Nat.le_refl _)⟩
end Go.Proofs.YtpfkfbmghddepaaGreat
namespace Go.Proofs.YtpfkfbmghddepaaGreat
open Go.RowKit

/-- the edge of place j is right, and comes behind the one ahead of it -/
def chkAt (n : Int) (es : List EdgeV) (j : Nat) : Bool :=
  match es[j]? with
  | none => true
  | some e => eB n e && (match j with
    | 0 => true
    | i + 1 => match es[i]? with
      | none => true
      | some d => lt d e)

/-- all of them are so -/
def chk (n : Int) (es : List EdgeV) : Bool := (List.range es.length).all (chkAt n es)

/-- the graph is right -/
def gB (N : Int) (es : List EdgeV) : Bool := decide (1 ≤ N ∧ N ≤ 12) && (chk N es && decide (es.length ≤ 66))

theorem chk_no {n : Int} {es : List EdgeV} {j : Nat} (hj : j < es.length) (h : chkAt n es j = false) : chk n es = false := by
  unfold chk
  rw [List.all_eq_false]
  exact ⟨j, List.mem_range.2 hj, by simp [h]⟩

theorem chk_yes {n : Int} {es : List EdgeV} (h : ∀ j, j < es.length → chkAt n es j = true) : chk n es = true := by
  unfold chk
  rw [List.all_eq_true]
  exact fun j hj => h j (List.mem_range.1 hj)

theorem chkAt_zero {n : Int} {es : List EdgeV} {e : EdgeV} (h : es[0]? = some e) : chkAt n es 0 = eB n e := by simp [chkAt, h]

theorem chkAt_succ {n : Int} {es : List EdgeV} {i : Nat} {d e : EdgeV} (h : es[i + 1]? = some e) (hd : es[i]? = some d) : chkAt n es (i + 1) = (eB n e && lt d e) := by simp only [chkAt, h, hd]

theorem chkAt_no {n : Int} {es : List EdgeV} {j : Nat} {e : EdgeV} (h : es[j]? = some e) (he : eB n e = false) : chkAt n es j = false := by simp only [chkAt, h, he, Bool.false_and]

theorem chk_all {n : Int} {es : List EdgeV} (h : chk n es = true) (j : Nat) (hj : j < es.length) : chkAt n es j = true := by
  unfold chk at h
  rw [List.all_eq_true] at h
  exact h j (List.mem_range.2 hj)

theorem chk_eB {n : Int} {es : List EdgeV} (h : chk n es = true) {e : EdgeV} (he : e ∈ es) : eB n e = true := by
  obtain ⟨j, hj, rfl⟩ := List.getElem_of_mem he
  have h1 := chk_all h j hj
  have h2 : es[j]? = some es[j] := List.getElem?_eq_getElem hj
  cases h3 : eB n es[j] with
  | true => rfl
  | false => rw [chkAt_no h2 h3] at h1; cases h1

theorem chk_next {n : Int} {es : List EdgeV} (h : chk n es = true) {i : Nat} {d e : EdgeV} (hd : es[i]? = some d) (he : es[i + 1]? = some e) : lt d e = true := by
  have h1 := chk_all h (i + 1) (List.getElem?_eq_some_iff.1 he).1
  rw [chkAt_succ he hd, Bool.and_eq_true] at h1
  exact h1.2

theorem asc_of_chk {n : Int} {es : List EdgeV} (h : chk n es = true) : Asc es := by
  intro i j d e hij hd he
  obtain ⟨k, rfl⟩ : ∃ k, j = i + 1 + k := ⟨j - i - 1, by omega⟩
  clear hij
  induction k generalizing e with
  | zero => exact chk_next h hd he
  | succ k ih =>
    have hl := (List.getElem?_eq_some_iff.1 he).1
    have h2 : es[i + 1 + k]? = some (es[i + 1 + k]'(by omega)) := List.getElem?_eq_getElem (by omega)
    exact lt_trans' (ih _ h2) (chk_next h h2 he)

theorem gB_chk {N : Int} {es : List EdgeV} (h : gB N es = true) : (1 ≤ N ∧ N ≤ 12) ∧ chk N es = true ∧ es.length ≤ 66 := by
  unfold gB at h
  simp only [Bool.and_eq_true, decide_eq_true_eq] at h
  exact ⟨h.1, h.2.1, h.2.2⟩

end Go.Proofs.YtpfkfbmghddepaaGreat
namespace Go.Proofs.YtpfkfbmghddepaaGreat
open Go.RowKit

/-- the edges of all tours -/
def allE (ts : List (List Int)) : List EdgeV := ts.flatMap tE
theorem allE_mem (ts : List (List Int)) (e : EdgeV) : e ∈ allE ts ↔ ∃ t ∈ ts, e ∈ tE t := by simp [allE]
theorem allE_nodup {ts : List (List Int)} (h : ts.Pairwise Apart) : (allE ts).Nodup := by
  induction ts with
  | nil => simp [allE]
  | cons t r ih =>
    rw [List.pairwise_cons] at h
    show (tE t ++ allE r).Nodup
    rw [List.nodup_append]
    refine ⟨eK_nodup t _, ih h.2, fun e he f hf hef => ?_⟩
    subst hef
    obtain ⟨s, hs, hes⟩ := (allE_mem r e).1 hf
    exact h.1 s hs e.1 (tE_in e he).1 (tE_in e hes).1
theorem allE_len {ts : List (List Int)} (h : ∀ t ∈ ts, tB t = true) : 2 * (allE ts).length + ts.length = (ts.map List.length).sum := by
  induction ts with
  | nil => simp [allE]
  | cons t r ih =>
    have h1 := tE_count (h t (by simp))
    have h2 := ih fun s hs => h s (by simp [hs])
    have h3 : (allE (t :: r)).length = (tE t).length + (allE r).length := by
      show (tE t ++ allE r).length = _
      rw [List.length_append]
    simp only [List.map_cons, List.sum_cons, List.length_cons]
    omega
/-- two lists of the same edges, each told once, are of one length -/
theorem len_same {a b : List EdgeV} (ha : a.Nodup) (hb : b.Nodup) (h : ∀ e, e ∈ a ↔ e ∈ b) : a.length = b.length := by
  have h1 := nd_sub ha fun e he => (h e).1 he
  have h2 := nd_sub hb fun e he => (h e).2 he
  omega
/-- one edge more where two tours are joined -/
theorem allE_join {a b J : List Int} {u v : Int} {W : List (List Int)} (ha : tB a = true) (hb : tB b = true) (hW : ∀ t ∈ W, tB t = true) (hJ : JoIs a b u v J) : (allE (W ++ [J])).length = (allE (a :: b :: W)).length + 1 := by
  have h1 := allE_len (ts := a :: b :: W) fun t ht => by
    simp only [List.mem_cons] at ht
    rcases ht with rfl | rfl | ht
    · exact ha
    · exact hb
    · exact hW t ht
  have h2 := allE_len (ts := W ++ [J]) fun t ht => by
    simp only [List.mem_append, List.mem_singleton] at ht
    rcases ht with ht | rfl
    · exact hW t ht
    · exact hJ.ok
  have h3 := hJ.len
  simp only [List.map_cons, List.sum_cons, List.length_cons, List.map_append, List.sum_append, List.length_append, List.map_nil, List.sum_nil, List.length_nil] at h1 h2
  omega
theorem jo_edge {a b J : List Int} {u v : Int} (hJ : JoIs a b u v J) (hl : u < v) : (u, v) ∈ tE J := by
  obtain ⟨k, h1, h2⟩ := hJ.step
  exact (tE_mem J (u, v)).2 ⟨k, h1, h2, hl⟩

/-- a vertex is in one tour alone -/
theorem FQ.place {N : Int} {ts : List (List Int)} (h : FQ N ts) {i j : Nat} {s t : List Int} {x : Int} (hi : ts[i]? = some s) (hj : ts[j]? = some t) (hs : x ∈ s) (ht : x ∈ t) : i = j := by
  obtain ⟨i0, i1⟩ := List.getElem?_eq_some_iff.1 hi
  obtain ⟨j0, j1⟩ := List.getElem?_eq_some_iff.1 hj
  rcases Nat.lt_trichotomy i j with hlt | hlt | hlt
  · have := List.pairwise_iff_getElem.1 h.2.1 i j i0 j0 hlt
    rw [i1, j1] at this
    exact absurd ht (this x hs)
  · exact hlt
  · have := List.pairwise_iff_getElem.1 h.2.1 j i j0 i0 hlt
    rw [i1, j1] at this
    exact absurd hs (this x ht)
theorem FQ.one {N : Int} {ts : List (List Int)} (h : FQ N ts) {s t : List Int} {x : Int} (hs : s ∈ ts) (ht : t ∈ ts) (h1 : x ∈ s) (h2 : x ∈ t) : s = t := by
  obtain ⟨i, hi⟩ := List.mem_iff_getElem?.1 hs
  obtain ⟨j, hj⟩ := List.mem_iff_getElem?.1 ht
  have := h.place hi hj h1 h2
  subst this
  rw [hi] at hj
  exact Option.some.inj hj
theorem vs_alike {a b : List Int} (h : ∀ x, x ∈ a ↔ x ∈ b) : vsL a = vsL b := asc_ext (vsK_asc a 12) (vsK_asc b 12) fun x => by
  show x ∈ vsL a ↔ x ∈ vsL b
  rw [vsL_mem, vsL_mem, h]
theorem mn_alike {a b : List Int} (h : ∀ x, x ∈ a ↔ x ∈ b) : mnV a = mnV b := by unfold mnV; rw [vs_alike h]
/-- every vertex below N is in a tour -/
theorem FQ.cover {N : Nat} {ts : List (List Int)} (h : FQ (N : Int) ts) {x : Int} (h0 : 0 ≤ x) (h1 : x < (N : Int)) : ∃ t ∈ ts, x ∈ t := by
  have hall : ∀ (l : List (List Int)), (l.flatMap vsL).length = cnt l := fun l => by
    induction l with
    | nil => simp [cnt]
    | cons t r ih =>
      simp only [List.flatMap_cons, List.length_append, ih]
      simp [cnt]
  have hnd : ∀ (l : List (List Int)), l.Pairwise Apart → (l.flatMap vsL).Nodup := fun l hl => by
    induction l with
    | nil => simp
    | cons t r ih =>
      rw [List.pairwise_cons] at hl
      rw [List.flatMap_cons, List.nodup_append]
      refine ⟨vs_nodup t, ih hl.2, fun y hy z hz e => ?_⟩
      subst e
      obtain ⟨s, hs, hys⟩ := List.mem_flatMap.1 hz
      exact hl.1 s hs y ((vsL_mem t y).1 hy).2 ((vsL_mem s y).1 hys).2
  by_cases hx : x ∈ ts.flatMap vsL
  · obtain ⟨t, ht, hxt⟩ := List.mem_flatMap.1 hx
    exact ⟨t, ht, ((vsL_mem t x).1 hxt).2⟩
  · exfalso
    have h2 : (x :: ts.flatMap vsL).Nodup := List.nodup_cons.2 ⟨hx, hnd ts h.2.1⟩
    have h3 := nd_sub (b := (List.range N).map fun j : Nat => (j : Int)) h2 fun y hy => by
      have hy2 : 0 ≤ y ∧ y < (N : Int) := by
        rcases List.mem_cons.1 hy with rfl | hy
        · exact ⟨h0, h1⟩
        · obtain ⟨t, ht, hyt⟩ := List.mem_flatMap.1 hy
          obtain ⟨v1, v2⟩ := (vsL_mem t y).1 hyt
          have v1 := of_decide_eq_true (show decide (0 ≤ y ∧ y < 12) = true from v1)
          exact ⟨v1.1, (h.1 t ht).2 y v2⟩
      exact List.mem_map.2 ⟨y.toNat, List.mem_range.2 (by omega), by omega⟩
    have h4 := h.2.2
    rw [List.length_cons, hall, List.length_map, List.length_range] at h3
    omega
/-- the least vertex of the tree of x -/
def Prt (ts : List (List Int)) (x m : Int) : Prop := ∃ t ∈ ts, x ∈ t ∧ m = mnV t
theorem Prt.uniq {N : Int} {ts : List (List Int)} (h : FQ N ts) {x m m' : Int} (h1 : Prt ts x m) (h2 : Prt ts x m') : m = m' := by
  obtain ⟨s, a1, a2, rfl⟩ := h1
  obtain ⟨t, b1, b2, rfl⟩ := h2
  rw [h.one a1 b1 a2 b2]
theorem Prt.like {a b : List (List Int)} (h : ∀ t ∈ a, ∃ s ∈ b, ∀ x, x ∈ t ↔ x ∈ s) {x m : Int} (hp : Prt a x m) : Prt b x m := by
  obtain ⟨t, h1, h2, rfl⟩ := hp
  obtain ⟨s, h3, h4⟩ := h t h1
  exact ⟨s, h3, (h4 x).1 h2, mn_alike h4⟩
end Go.Proofs.YtpfkfbmghddepaaGreat
namespace Go.Proofs.YtpfkfbmghddepaaGreat
open Go.RowKit

theorem FP.q {N : Int} {ts : List (List Int)} (h : FP N ts) : FQ N ts := ((FP_iff N ts).1 h).2.2.1
theorem srt_perm {N : Nat} {l : List (List Int)} (h : FQ (N : Int) l) : (srtK l N).Perm l := srtK_perm fun t ht => mn_range (h.1 t ht).1 (h.1 t ht).2
/-- two trees linked by an edge -/
structure LkIs (N : Nat) (ts : List (List Int)) (i j : Nat) (a b : List Int) (u v : Int) (J : List Int) (g : List (List Int)) : Prop where
  jo : JoIs a b u v J
  eq : g = srtK (woK ts [i, j] ts.length ++ [J]) N
  ok : FP (N : Int) g
  len : g.length + 1 = ts.length
  perm : g.Perm (woK ts [i, j] ts.length ++ [J])
  old : ts.Perm (a :: b :: woK ts [i, j] ts.length)
  there : ∃ k : Nat, g[k]? = some J
theorem lk_is {N : Nat} {ts : List (List Int)} (h : FP (N : Int) ts) {i j : Nat} {a b : List Int} {u v : Int} (hi : ts[i]? = some a) (hj : ts[j]? = some b) (hij : i ≠ j) (hu : u ∈ a) (hv : v ∈ b) :
    ∃ J, joO a u b v = some J ∧ LkIs N ts i j a b u v J (srtK (woK ts [i, j] ts.length ++ [J]) N) := by
  have hq := h.q
  have hp := wo_two_all hi hj hij
  have hq2 := hq.perm hp.symm
  have ha := hq.1 a (List.mem_of_getElem? hi)
  have hb := hq.1 b (List.mem_of_getElem? hj)
  have hap : Apart a b := (List.pairwise_cons.1 hq2.2.1).1 b (by simp)
  obtain ⟨J, e, hJ⟩ := jo_two ha.1 hb.1 hap hu hv
  have hq3 := hq2.join hJ.ok hJ.mem
  have hps := srt_perm hq3
  refine ⟨J, e, hJ, rfl, FP_srt (by have := h.1; omega) (by have := h.2.1; omega) hq3, ?_, hps, hp.symm, ?_⟩
  · have h1 := hps.length_eq
    have h2 := hp.length_eq
    simp only [List.length_cons, List.length_append, List.length_nil] at h1 h2
    omega
  · exact List.mem_iff_getElem?.1 (hps.mem_iff.2 (by simp))
/-- and cut again there -/
theorem lk_cut {N : Nat} {ts : List (List Int)} {i j : Nat} {a b : List Int} {u v : Int} {J : List Int} {g : List (List Int)} (h : FP (N : Int) ts) (L : LkIs N ts i j a b u v J g) {k : Nat} (hk : g[k]? = some J) :
    ∃ r, spO J u v = (a, r, true) ∧ FP (N : Int) (srtK (woK g [k] g.length ++ [a, r]) N) ∧ ∀ x m, Prt (srtK (woK g [k] g.length ++ [a, r]) N) x m ↔ Prt ts x m := by
  obtain ⟨r, HR, hs⟩ := L.jo.back
  have hq := h.q
  have hqg := L.ok.q
  have hp1 := wo_one_all hk
  have hW : (woK g [k] g.length).Perm (woK ts [i, j] ts.length) := by
    have h2 : (J :: woK g [k] g.length).Perm (J :: woK ts [i, j] ts.length) := (hp1.trans L.perm).trans (List.perm_append_comm (l₂ := [J]))
    exact h2.cons_inv
  have hqo := hq.perm L.old
  have hap : Apart a b := (List.pairwise_cons.1 hqo.2.1).1 b (by simp)
  have hlike : ∀ x, x ∈ r ↔ x ∈ b := HR.mem
  have hq2 : FQ (N : Int) (woK g [k] g.length ++ [a, r]) := by
    obtain ⟨h1, h2, h3⟩ := hqo
    have hq3 : FQ (N : Int) (a :: r :: woK ts [i, j] ts.length) := by
      rw [List.pairwise_cons, List.pairwise_cons] at h2
      refine ⟨fun t ht => ?_, ?_, ?_⟩
      · simp only [List.mem_cons] at ht
        rcases ht with rfl | rfl | ht
        · exact h1 t (by simp)
        · exact ⟨HR.ok, fun x hx => (h1 b (by simp)).2 x ((hlike x).1 hx)⟩
        · exact h1 t (by simp [ht])
      · rw [List.pairwise_cons, List.pairwise_cons]
        refine ⟨fun t ht x hx hxt => ?_, fun t ht x hx => h2.2.1 t ht x ((hlike x).1 hx), h2.2.2⟩
        rcases List.mem_cons.1 ht with rfl | ht
        · exact hap x hx ((hlike x).1 hxt)
        · exact h2.1 t (by simp [ht]) x hx hxt
      · rw [← h3]
        simp only [cnt, List.map_cons, List.sum_cons]
        rw [vs_alike hlike]
    exact hq3.perm ((hW.symm.append_left [a, r]).trans List.perm_append_comm)
  refine ⟨r, hs, FP_srt (by have := h.1; omega) (by have := h.2.1; omega) hq2, fun x m => ?_⟩
  have hps := srt_perm hq2
  constructor
  · refine Prt.like fun t ht => ?_
    have ht2 := hps.mem_iff.1 ht
    simp only [List.mem_append, List.mem_cons, List.not_mem_nil, or_false] at ht2
    rcases ht2 with ht2 | rfl | rfl
    · exact ⟨t, L.old.mem_iff.2 (by simp [hW.mem_iff.1 ht2]), fun _ => Iff.rfl⟩
    · exact ⟨t, L.old.mem_iff.2 (by simp), fun _ => Iff.rfl⟩
    · exact ⟨b, L.old.mem_iff.2 (by simp), hlike⟩
  · refine Prt.like fun t ht => ?_
    have ht2 := L.old.mem_iff.1 ht
    simp only [List.mem_cons] at ht2
    rcases ht2 with rfl | rfl | ht2
    · exact ⟨t, hps.mem_iff.2 (by simp), fun _ => Iff.rfl⟩
    · exact ⟨r, hps.mem_iff.2 (by simp), fun x => (hlike x).symm⟩
    · exact ⟨t, hps.mem_iff.2 (by simp [hW.mem_iff.2 ht2]), fun _ => Iff.rfl⟩
end Go.Proofs.YtpfkfbmghddepaaGreat
namespace Go.Proofs.YtpfkfbmghddepaaGreat
open Go.RowKit

def trP (ts : List (List Int)) (v : Int) (k : Nat) : Bool := match ts[k]? with | some t => decide (v ∈ t) | none => false
theorem trP_at {ts : List (List Int)} {v : Int} {k : Nat} {t : List Int} (h : ts[k]? = some t) : trP ts v k = decide (v ∈ t) := by simp [trP, h]
/-- the first place of a tour that v is in, or -1 -/
def trI (ts : List (List Int)) (v : Int) : Int := firstN (trP ts v) ts.length
theorem trI_cases (ts : List (List Int)) (v : Int) : (∃ (k : Nat) (t : List Int), ts[k]? = some t ∧ v ∈ t ∧ trI ts v = (k : Int)) ∨ ((∀ t ∈ ts, v ∉ t) ∧ trI ts v = -1) := by
  rcases firstN_cases (trP ts v) ts.length with ⟨k, hk, h, _, e⟩ | ⟨h, e⟩
  · refine .inl ⟨k, ts[k], List.getElem?_eq_getElem hk, ?_, e⟩
    rw [trP_at (List.getElem?_eq_getElem hk)] at h
    exact of_decide_eq_true h
  · refine .inr ⟨fun t ht hv => ?_, e⟩
    obtain ⟨k, hk⟩ := List.mem_iff_getElem?.1 ht
    have := h k (List.getElem?_eq_some_iff.1 hk).1
    rw [trP_at hk, decide_eq_true hv] at this
    cases this
theorem trI_of {N : Int} {ts : List (List Int)} (h : FQ N ts) {v : Int} {k : Nat} {t : List Int} (hk : ts[k]? = some t) (hv : v ∈ t) : trI ts v = (k : Int) := by
  rcases trI_cases ts v with ⟨j, s, hj, hs, e⟩ | ⟨hn, _⟩
  · rw [e, h.place hj hk hs hv]
  · exact absurd hv (hn t (List.mem_of_getElem? hk))
/-- what TreeOf answers -/
noncomputable def treeO (N : Int) (ts : List (List Int)) (v : Int) : Int := @ite _ (FP N ts) (Classical.propDecidable _) (trI ts v) (-1)
theorem treeO_yes {N : Int} {ts : List (List Int)} (h : FP N ts) (v : Int) : treeO N ts v = trI ts v := by unfold treeO; rw [if_pos h]
theorem treeO_no {N : Int} {ts : List (List Int)} (h : ¬ FP N ts) (v : Int) : treeO N ts v = -1 := by unfold treeO; rw [if_neg h]
theorem treeO_cases (N : Int) (ts : List (List Int)) (v : Int) : (∃ (k : Nat) (t : List Int), FP N ts ∧ ts[k]? = some t ∧ v ∈ t ∧ treeO N ts v = (k : Int)) ∨ ((FP N ts → ∀ t ∈ ts, v ∉ t) ∧ treeO N ts v = -1) := by
  by_cases h : FP N ts
  · rw [treeO_yes h]
    rcases trI_cases ts v with ⟨k, t, h1, h2, h3⟩ | ⟨h1, h2⟩
    · exact .inl ⟨k, t, h, h1, h2, h3⟩
    · exact .inr ⟨fun _ => h1, h2⟩
  · exact .inr ⟨fun h2 => absurd h2 h, treeO_no h v⟩
/-- what SizeOf answers -/
noncomputable def sizeO (N : Int) (ts : List (List Int)) (v : Int) : Int := if treeO N ts v < 0 then 0 else ((vsL ((ts[(treeO N ts v).toNat]?).getD [])).length : Int)
theorem sizeO_yes {N : Int} {ts : List (List Int)} {v : Int} {k : Nat} {t : List Int} (h : treeO N ts v = (k : Int)) (ht : ts[k]? = some t) : sizeO N ts v = ((vsL t).length : Int) := by
  unfold sizeO
  rw [h, if_neg (by omega), Int.toNat_natCast, ht]
  rfl
theorem sizeO_no {N : Int} {ts : List (List Int)} {v : Int} (h : treeO N ts v = -1) : sizeO N ts v = 0 := by
  unfold sizeO
  rw [h, if_pos (by omega)]
end Go.Proofs.YtpfkfbmghddepaaGreat
namespace Go.Proofs.YtpfkfbmghddepaaGreat
open Go.RowKit

/-- a right graph's edges: their ends, each once -/
theorem gB_ends {n : Nat} {es : List EdgeV} (h : gB (n : Int) es = true) : ∀ e ∈ es, 0 ≤ e.1 ∧ e.1 < e.2 ∧ e.2 < (n : Int) := fun e he => by
  have := chk_eB (gB_chk h).2.1 he
  unfold eB at this
  have := of_decide_eq_true this
  omega
theorem gB_nodup {N : Int} {es : List EdgeV} (h : gB N es = true) : es.Nodup := by
  rw [List.Nodup, List.pairwise_iff_getElem]
  intro i j hi hj hij e
  have := asc_of_chk (gB_chk h).2.1 i j _ _ hij (List.getElem?_eq_getElem hi) (List.getElem?_eq_getElem hj)
  rw [e, lt_irrefl'] at this
  cases this
theorem gB_n {N : Int} {es : List EdgeV} (h : gB N es = true) : ∃ n : Nat, N = (n : Int) ∧ 1 ≤ n ∧ n ≤ 12 := by
  have := (gB_chk h).1
  exact ⟨N.toNat, by omega, by omega, by omega⟩
theorem fE_nodup {ls : List Ld} (h : (gE ls).Nodup) (i : Int) : (fE ls i).Nodup := by
  unfold fE
  exact h.sublist ((List.filter_sublist).map _)
theorem fE_ends {n : Nat} {ls : List Ld} (h : gB (n : Int) (gE ls) = true) (i : Int) : ∀ e ∈ fE ls i, 0 ≤ e.1 ∧ e.1 < e.2 ∧ e.2 < (n : Int) := fun e he => gB_ends h e (fE_g he)
/-- all of the forest is of F(0) where no level is below 0 -/
theorem fE_all {ls : List Ld} (h : ∀ x ∈ ls, 0 ≤ x.l) {i : Int} (hi : i ≤ 0) : fE ls i = fE ls 0 := by
  unfold fE
  congr 1
  apply List.filter_congr
  intro x hx
  have := h x hx
  unfold fP
  rw [decide_eq_true (show i ≤ x.l by omega), decide_eq_true this]
/-- level i of a web is right -/
def LvOk (n : Nat) (ls : List Ld) (i : Nat) : Prop := ∃ ts, ftK (fE ls (i : Int)) n n = some ts ∧ (∀ t ∈ ts, 1 < (vsL t).length → (vsL t).length ≤ n / 2 ^ i) ∧ ∀ x ∈ ls, x.t = false → x.l = (i : Int) → trI ts x.a = trI ts x.b
/-- the web is right -/
def WOk (N : Int) (ls : List Ld) : Prop := gB N (gE ls) = true ∧ (∀ x ∈ ls, 0 ≤ x.l ∧ x.l ≤ 4) ∧ ∀ i, i < 5 → LvOk N.toNat ls i
noncomputable def wB (N : Int) (ls : List Ld) : Bool := @decide (WOk N ls) (Classical.propDecidable _)
theorem wB_yes {N : Int} {ls : List Ld} (h : WOk N ls) : wB N ls = true := by unfold wB; exact @decide_eq_true _ (Classical.propDecidable _) h
theorem wB_no {N : Int} {ls : List Ld} (h : ¬ WOk N ls) : wB N ls = false := by unfold wB; exact @decide_eq_false _ (Classical.propDecidable _) h
theorem wB_iff {N : Int} {ls : List Ld} : wB N ls = true ↔ WOk N ls := ⟨fun h => Classical.byContradiction fun hn => (by rw [wB_no hn] at h; cases h), wB_yes⟩
theorem WOk.bridge {n : Nat} {ls : List Ld} (h : WOk (n : Int) ls) : Bridge (fE ls 0) := by
  obtain ⟨ts, h1, _⟩ := h.2.2 0 (by omega)
  have hg := (gB_chk h.1).1
  rw [Int.toNat_natCast] at h1
  exact ft_bridge (fE_ends h.1 0) (by omega) (by omega) h1
/-- two vertices are in one tour, or not -/
theorem tr_same {es : List EdgeV} {n : Nat} {ts : List (List Int)} (h : FtAll es n ts) {u v : Int} (hu : 0 ≤ u ∧ u < (n : Int)) (hv : 0 ≤ v ∧ v < (n : Int)) : trI ts u = trI ts v ↔ Conn es u v := by
  have hq := h.fp.q
  obtain ⟨t, ht, hut⟩ := h.cov u hu.1 hu.2
  obtain ⟨s, hs, hvs⟩ := h.cov v hv.1 hv.2
  obtain ⟨i, hi⟩ := List.mem_iff_getElem?.1 ht
  obtain ⟨j, hj⟩ := List.mem_iff_getElem?.1 hs
  rw [trI_of hq hi hut, trI_of hq hj hvs]
  constructor
  · intro e
    obtain rfl : i = j := by omega
    rw [hi] at hj
    obtain rfl := Option.some.inj hj
    exact (h.conn t ht u hut v).1 hvs
  · intro hc
    have hvt := (h.conn t ht u hut v).2 hc
    have := trI_of hq hi hvt
    rw [trI_of hq hj hvs] at this
    omega
end Go.Proofs.YtpfkfbmghddepaaGreat
