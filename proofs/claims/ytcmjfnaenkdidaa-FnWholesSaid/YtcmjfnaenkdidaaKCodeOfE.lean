/- What FnWholes asks: the parts of a graph (pure); twelve drawn numbers. Where FnWholes stands while it parts the edges. The walk of FnWholes. A slice of bytes that comes in, as the walks over drawn inputs want it. -/
import Derived.Test.YtcmjfnaenkdidaaKWl11
import Derived.Test.YtcmjfnaenkdidaaKSm11
import Derived.Deep.DeepCutAuto
import Derived.Deep.AppendLies
import Derived.Test.YtcmjfnaenkdidaaKSHas
import Derived.WalkKit
import Derived.ProofKit
import Derived.OpenShut
import Derived.ChangeOld
import Derived.Below
namespace Go.Proofs.Ytcmjfnaenkdidaa
open Go.RowKit

theorem conn_eq {es : List EdgeV} {n : Nat} (hE : EsIn es n) {x y : Int} (hx : 0 ≤ x ∧ x < n) (hy : 0 ≤ y ∧ y < n) (h : Conn es x y) : atI (labs es n n) x = atI (labs es n n) y := by
  have sx := sound_labs hE n x hx.1 hx.2
  have sy := sound_labs hE n y hy.1 hy.2
  have h1 := labs_full hE (u := atI (labs es n n) y) (v := x) sy.1.1 sy.1.2 (sy.2.symm.trans h.symm)
  have h2 := labs_full hE (u := atI (labs es n n) x) (v := y) sx.1.1 sx.1.2 (sx.2.symm.trans h)
  omega
theorem lab_edge {es : List EdgeV} {n : Nat} (hE : EsIn es n) {e : EdgeV} (he : e ∈ es) : atI (labs es n n) e.1 = atI (labs es n n) e.2 := by
  have hi := hE e he
  exact conn_eq hE ⟨by omega, by omega⟩ ⟨by omega, by omega⟩ (Conn.edge he)
theorem lab_le {es : List EdgeV} {n : Nat} (hE : EsIn es n) {v : Int} (hv : 0 ≤ v ∧ v < n) : (0 ≤ atI (labs es n n) v ∧ atI (labs es n n) v < n) ∧ atI (labs es n n) v ≤ v := by
  refine ⟨(sound_labs hE n v hv.1 hv.2).1, ?_⟩
  have := labs_le hE 0 n v
  rw [Nat.zero_add, labs, lab0_at hv.1 hv.2] at this
  exact this
theorem asc_ext : ∀ {l1 l2 : List EdgeV}, (l1.Pairwise fun d e => lt d e = true) → (l2.Pairwise fun d e => lt d e = true) → (∀ x, x ∈ l1 ↔ x ∈ l2) → l1 = l2 := by
  intro l1
  induction l1 with
  | nil =>
    intro l2 _ _ h
    cases l2 with
    | nil => rfl
    | cons y l2 => exact absurd ((h y).2 (by simp)) (by simp)
  | cons x l1 ih =>
    intro l2 h1 h2 h
    cases l2 with
    | nil => exact absurd ((h x).1 (by simp)) (by simp)
    | cons y l2 =>
      obtain ⟨a1, b1⟩ := List.pairwise_cons.1 h1
      obtain ⟨a2, b2⟩ := List.pairwise_cons.1 h2
      have ne1 : ∀ z ∈ l1, z ≠ x := fun z hz e => by subst e; have := a1 z hz; rw [lt_irrefl'] at this; cases this
      have ne2 : ∀ z ∈ l2, z ≠ y := fun z hz e => by subst e; have := a2 z hz; rw [lt_irrefl'] at this; cases this
      have hxy : x = y := by
        have hx := (h x).1 (by simp)
        have hy := (h y).2 (by simp)
        rcases List.mem_cons.1 hx with e | hx
        · exact e
        · rcases List.mem_cons.1 hy with e | hy
          · exact e.symm
          · have h3 := a2 x hx
            have h4 := a1 y hy
            rw [lt_asymm' h3] at h4
            cases h4
      subst hxy
      rw [ih b1 b2 fun z => ?_]
      constructor
      · intro hz
        rcases List.mem_cons.1 ((h z).1 (by simp [hz])) with e | hz'
        · exact absurd e (ne1 z hz)
        · exact hz'
      · intro hz
        rcases List.mem_cons.1 ((h z).2 (by simp [hz])) with e | hz'
        · exact absurd e (ne2 z hz)
        · exact hz'

theorem labs_congr {e1 e2 : List EdgeV} {n : Nat} (h1 : EsIn e1 n) (h2 : EsIn e2 n) (h : ∀ u v, Conn e1 u v ↔ Conn e2 u v) : labs e1 n n = labs e2 n n := by
  refine List.ext_getElem? fun i => ?_
  by_cases hi : i < n
  · rw [atI_some (ls := labs e1 n n) (by rw [labs_len]; exact hi), atI_some (ls := labs e2 n n) (by rw [labs_len]; exact hi)]
    congr 1
    have s1 := sound_labs h1 n (i : Int) (by omega) (by omega)
    have s2 := sound_labs h2 n (i : Int) (by omega) (by omega)
    have a1 := labs_full h2 s1.1.1 s1.1.2 ((h _ _).1 s1.2).symm
    have a2 := labs_full h1 s2.1.1 s2.1.2 ((h _ _).2 s2.2).symm
    omega
  · rw [List.getElem?_eq_none (by rw [labs_len]; omega), List.getElem?_eq_none (by rw [labs_len]; omega)]
/-- right edges -/
theorem LOk_labs {es : List EdgeV} {n : Nat} (h : EsIn es n) : LOk n (labs es n n) :=
  ⟨labs_len es n n, fun v hv => by have := lab_le h (v := (v : Int)) ⟨by omega, by omega⟩; omega⟩
theorem mem_lE {ls : List Int} {n : Nat} {e : EdgeV} : e ∈ lE ls n ↔ ∃ v : Nat, v < n ∧ atI ls (v : Int) < (v : Int) ∧ e = (atI ls (v : Int), (v : Int)) := by
  unfold lE
  rw [List.mem_flatMap]
  constructor
  · rintro ⟨v, hv, h⟩
    rw [List.mem_range] at hv
    by_cases h5 : atI ls (v : Int) < (v : Int)
    · rw [if_pos h5] at h
      exact ⟨v, hv, h5, by simpa using h⟩
    · rw [if_neg h5] at h
      simp at h
  · rintro ⟨v, hv, h5, rfl⟩
    exact ⟨v, List.mem_range.2 hv, by rw [if_pos h5]; simp⟩
/-- what the labels of a part tell is what its edges tell -/
theorem lE_closed {es : List EdgeV} {n : Nat} (h : EsIn es n) (S : Int → Prop) : (∀ e ∈ lE (labs es n n) n, (S e.1 ↔ S e.2)) ↔ ∀ e ∈ es, (S e.1 ↔ S e.2) := by
  constructor
  · intro hS e he
    have hi := h e he
    have hv : ∀ v : Int, 0 ≤ v → v < n → (S (atI (labs es n n) v) ↔ S v) := fun v h0 h1 => by
      have h2 := lab_le h ⟨h0, h1⟩
      by_cases h3 : atI (labs es n n) v = v
      · rw [h3]
      · have := hS (atI (labs es n n) v, v) (mem_lE.2 ⟨v.toNat, by omega, by rw [show ((v.toNat : Nat) : Int) = v by omega]; omega, by rw [show ((v.toNat : Nat) : Int) = v by omega]⟩)
        exact this
    rw [← hv e.1 (by omega) (by omega), ← hv e.2 (by omega) (by omega), lab_edge h he]
  · intro hS e he
    obtain ⟨v, hv, _, rfl⟩ := mem_lE.1 he
    have hs := (sound_labs h n (v : Int) (by omega) (by omega)).2
    exact ⟨hs.symm S hS, hs S hS⟩

/-- the edges that came so far lie in three parts -/
structure SP (es : List EdgeV) (k : Nat) (ea eb ec : List EdgeV) : Prop where
  sa : ea.Sublist (es.take k)
  sb : eb.Sublist (es.take k)
  sc : ec.Sublist (es.take k)
  pm : (ea ++ eb ++ ec).Perm (es.take k)
theorem SP.start (es : List EdgeV) : SP es 0 [] [] [] := ⟨by simp, by simp, by simp, by simp⟩
theorem sub_snoc {l : List EdgeV} {r : List EdgeV} (h : l.Sublist r) (f : EdgeV) : (l ++ [f]).Sublist (r ++ [f]) := h.append (List.Sublist.refl _)
theorem sub_more {l : List EdgeV} {r : List EdgeV} (h : l.Sublist r) (f : EdgeV) : l.Sublist (r ++ [f]) := h.trans (List.sublist_append_left _ _)
theorem SP.a {es : List EdgeV} {k : Nat} {ea eb ec : List EdgeV} (h : SP es k ea eb ec) {f : EdgeV} (hf : es[k]? = some f) : SP es (k + 1) (ea ++ [f]) eb ec := by
  have e := take_snocF es k f hf
  refine ⟨by rw [e]; exact sub_snoc h.sa f, by rw [e]; exact sub_more h.sb f, by rw [e]; exact sub_more h.sc f, ?_⟩
  rw [e]
  refine List.Perm.trans ?_ (h.pm.append_right [f])
  simp only [List.append_assoc]
  refine List.Perm.append_left ea ?_
  rw [← List.append_assoc eb ec [f]]
  exact List.perm_append_comm
theorem SP.b {es : List EdgeV} {k : Nat} {ea eb ec : List EdgeV} (h : SP es k ea eb ec) {f : EdgeV} (hf : es[k]? = some f) : SP es (k + 1) ea (eb ++ [f]) ec := by
  have e := take_snocF es k f hf
  refine ⟨by rw [e]; exact sub_more h.sa f, by rw [e]; exact sub_snoc h.sb f, by rw [e]; exact sub_more h.sc f, ?_⟩
  rw [e]
  refine List.Perm.trans ?_ (h.pm.append_right [f])
  simp only [List.append_assoc]
  exact List.Perm.append_left ea (List.Perm.append_left eb List.perm_append_comm)
theorem SP.c {es : List EdgeV} {k : Nat} {ea eb ec : List EdgeV} (h : SP es k ea eb ec) {f : EdgeV} (hf : es[k]? = some f) : SP es (k + 1) ea eb (ec ++ [f]) := by
  have e := take_snocF es k f hf
  refine ⟨by rw [e]; exact sub_more h.sa f, by rw [e]; exact sub_more h.sb f, by rw [e]; exact sub_snoc h.sc f, ?_⟩
  rw [e, ← List.append_assoc]
  exact h.pm.append_right [f]

/-- all that the law asks -/
structure LawW (nn : Nat) (es ea eb ec : List EdgeV) : Prop where
  ga : gB (nn : Int) ea = true
  gb : gB (nn : Int) eb = true
  gg : gB (nn : Int) es = true
  la : LOk nn (labs ea nn nn)
  lb : LOk nn (labs eb nn nn)
  cut : ∀ e ∈ ec, eB (nn : Int) e = true
  whole : labs (uE [labs ea nn nn, labs eb nn nn] nn ++ ec) nn nn = labs es nn nn
  all : weO (ea ++ eb ++ ec) = some es
  twice : (weO (ea ++ ea ++ ec)).isSome = decide (ea.length = 0)
theorem lawW {nn : Nat} {es ea eb ec : List EdgeV} (hg : GR nn es 16) (h : SP es es.length ea eb ec) : LawW nn es ea eb ec := by
  have n2 := hg.n2
  have n12 := hg.n12
  have hasc := asc_of_chk hg.ok
  have hpw := pairwise_asc' hasc
  have het : es.take es.length = es := List.take_of_length_le (Nat.le_refl _)
  obtain ⟨sa, sb, sc, pm⟩ := h
  rw [het] at sa sb sc pm
  have hright : ∀ e ∈ es, eB (nn : Int) e = true := fun e he => chk_eB hg.ok he
  have hgB : ∀ l : List EdgeV, l.Sublist es → gB (nn : Int) l = true := fun l hl => by
    unfold gB
    rw [decide_eq_true (show (1 : Int) ≤ (nn : Int) ∧ (nn : Int) ≤ 12 by omega), chk_of (fun e he => hright e (hl.subset he)) (asc_of_pairwise (hpw.sublist hl)), decide_eq_true (show l.length ≤ 66 by have := hl.length_le; have := hg.len; omega)]
    rfl
  have hIn : ∀ l : List EdgeV, l.Sublist es → EsIn l nn := fun l hl => by
    have := esIn_of (hgB l hl)
    rwa [Int.toNat_natCast] at this
  have hnd : es.Nodup := hpw.imp fun {a b} h e => by rw [e, lt_irrefl'] at h; cases h
  have hEI : EsIn (uE [labs ea nn nn, labs eb nn nn] nn ++ ec) nn := by
    intro e he
    rcases List.mem_append.1 he with h1 | h1
    · unfold uE at h1
      simp only [List.flatMap_cons, List.flatMap_nil, List.append_nil] at h1
      rcases List.mem_append.1 h1 with h2 | h2
      · obtain ⟨v, hv, h5, rfl⟩ := mem_lE.1 h2
        have := lab_le (hIn ea sa) (v := (v : Int)) ⟨by omega, by omega⟩
        exact ⟨this.1.1, h5, by show (v : Int) < _; omega⟩
      · obtain ⟨v, hv, h5, rfl⟩ := mem_lE.1 h2
        have := lab_le (hIn eb sb) (v := (v : Int)) ⟨by omega, by omega⟩
        exact ⟨this.1.1, h5, by show (v : Int) < _; omega⟩
    · exact hIn ec sc e h1
  refine ⟨hgB ea sa, hgB eb sb, hgB es (List.Sublist.refl _), LOk_labs (hIn ea sa), LOk_labs (hIn eb sb), fun e he => hright e (sc.subset he), ?_, ?_, ?_⟩
  · refine labs_congr hEI (hIn es (List.Sublist.refl _)) fun u v => ?_
    have hcl : ∀ S : Int → Prop, (∀ e ∈ uE [labs ea nn nn, labs eb nn nn] nn ++ ec, (S e.1 ↔ S e.2)) ↔ ∀ e ∈ es, (S e.1 ↔ S e.2) := fun S => by
      have ha := lE_closed (hIn ea sa) S
      have hb := lE_closed (hIn eb sb) S
      constructor
      · intro hS e he
        have he2 := pm.mem_iff.2 he
        rcases List.mem_append.1 he2 with h3 | h3
        · rcases List.mem_append.1 h3 with h4 | h4
          · exact ha.1 (fun d hd => hS d (List.mem_append.2 (.inl (by simp [uE, hd])))) e h4
          · exact hb.1 (fun d hd => hS d (List.mem_append.2 (.inl (by simp [uE, hd])))) e h4
        · exact hS e (List.mem_append.2 (.inr h3))
      · intro hS e he
        rcases List.mem_append.1 he with h1 | h1
        · unfold uE at h1
          simp only [List.flatMap_cons, List.flatMap_nil, List.append_nil] at h1
          rcases List.mem_append.1 h1 with h2 | h2
          · exact ha.2 (fun d hd => hS d (sa.subset hd)) e h2
          · exact hb.2 (fun d hd => hS d (sb.subset hd)) e h2
        · exact hS e (sc.subset h1)
    exact ⟨fun hc S hS => hc S ((hcl S).2 hS), fun hc S hS => hc S ((hcl S).1 hS)⟩
  · have hn2 : (ea ++ eb ++ ec).Nodup := pm.nodup_iff.2 hnd
    unfold weO
    rw [if_pos hn2]
    congr 1
    exact asc_ext (pairwise_asc' (srtE_asc hn2)) hpw fun x => by rw [srtE_mem]; exact pm.mem_iff
  · unfold weO
    cases ea with
    | nil =>
      rw [if_pos (by simpa using hnd.sublist sc)]
      rfl
    | cons d r =>
      rw [if_neg]
      · simp
      · intro hn
        have := (List.nodup_append.1 (List.nodup_append.1 hn).1).2.2 d (by simp) d (by simp)
        exact this rfl

/-- numbers in the making, the cursor right -/
structure PAt (w : World) (G : Nat) (a : Option Addr) (len cap : Nat) (ls : List Int) (a' : Option Addr) (m c' : Nat) (u : World) : Prop where
  cur : Cur u G a len cap
  own : u.ownsRow w.heap.size 3 1 (.slice a' m c') m (ic ls)
  grown : w.grownBy u (some G)
  low : G < w.heap.size
theorem PAt.code {w : World} {G : Nat} {a : Option Addr} {len cap : Nat} {ls : List Int} {a' : Option Addr} {m c' : Nat} {u : World} (h : PAt w G a len cap ls a' m c' u) (hc : Code w G a len) : Code u G a len := hc.kept h.grown
theorem PAt.drawn {w : World} {G : Nat} {a : Option Addr} {len cap : Nat} {ls : List Int} {a' : Option Addr} {m c' : Nat} {u v : World} (h : PAt w G a len cap ls a' m c' u) (d : Drawn u v G a len cap) : PAt w G a len cap ls a' m c' v :=
  ⟨d.cur, World.ownsRow.kept h.own d.grown (.inr (fun e => by have := (h.own.lt G e).1; have := h.low; omega)), grown_trans h.grown d.grown, h.low⟩
theorem PAt.up {w : World} {G : Nat} {a : Option Addr} {len cap : Nat} {ls : List Int} {a' : Option Addr} {m c' : Nat} {u v : World} (h : PAt w G a len cap ls a' m c' u) (hb : Below u.heap.size u v) : PAt w G a len cap ls a' m c' v :=
  ⟨h.cur.up hb, own_up h.own hb, grown_up h.grown (hb.mono h.grown.size), h.low⟩
theorem PAt.app {w : World} {G : Nat} {a : Option Addr} {len cap : Nat} {ls : List Int} {a' : Option Addr} {m c' : Nat} {u : World} (h : PAt w G a len cap ls a' m c' u) {x : Int} {v : Value} {u' : World}
    (ho : u'.ownsRow w.heap.size 3 1 v (m + 1) (ic ls ++ [.int .i64 x])) (hg : u.grownBy u' (Value.slice a' m c').ownBlock) : ∃ a2 c2, v = .slice a2 (m + 1) c2 ∧ PAt w G a len cap (ls ++ [x]) a2 (m + 1) c2 u' := by
  obtain ⟨a2, c2, rfl⟩ := own_form ho
  rw [← ic_snoc] at ho
  have hb : Below w.heap.size u u' := (Below.refl _ u).grown hg h.grown.size (fun j hj => (h.own.lt j hj).1)
  have hne : (Value.slice a' m c').ownBlock ≠ some G := fun e => by have := (h.own.lt G e).1; have := h.low; omega
  have hbl : u'.heap[G]? = u.heap[G]? := hg.block G h.cur.lt (fun e => hne e.symm)
  obtain ⟨i, y, h1, h2⟩ := h.cur
  exact ⟨a2, c2, rfl, ⟨i, y, h1, hbl.trans h2⟩, ho, grown_up h.grown hb, h.low⟩
set_option maxRecDepth 100000 in
set_option maxHeartbeats 2000000 in
theorem drawPlaces_any (w : World) (a : Option Addr) (len cap : Nat) (hl : len ≤ 1048576) (hcode : Code w w.heap.size a len) :
    Calls Try.prog 10 #[.slice a len cap] w fun e w' => ∃ (g c m : Nat) (ls : List Int), Hid (ls.length = 12 ∧ ∀ z ∈ ls, 0 ≤ z ∧ z < 10000) ∧ e = .returned (.slice (some ⟨g, 0, none⟩) m c) ∧ w'.ownsRow w.heap.size 3 1 (.slice (some ⟨g, 0, none⟩) m c) m (ic ls) ∧ Below w.heap.size w w' := by
  obtain ⟨i0, hi, hz0, hz1, hz2⟩ := info_parts info3i
  have HN := hideIt (l01New_any w a len cap hl hcode)
  clear hcode
  go_enter Try.func10, Try.ntmps10
  go_wp2_with (go_at_call 38; refine HN.out.mono ?_; rintro e w1 ⟨rfl, hc, hd, hb, hs⟩; refine Hid.out ?_)
  refine (show ∀ {p : Prop}, p → Hid p from fun h => h) ?_
  have HP := hideIt (l01Byte_drawn w1 w.heap.size a len cap hl hc hd)
  clear hc hd HN
  go_wp2_with (go_at_call 41; refine HP.out.mono ?_; rintro e w2 ⟨x, hx, rfl, dr⟩; refine Hid.out ?_)
  refine (show ∀ {p : Prop}, p → Hid p from fun h => h) ?_
  have hb2 : Below w.heap.size w w2 := hb.trans ((Below.refl w.heap.size w1).grown dr.grown (by omega) (fun j e => by cases e; exact Nat.le_refl _))
  have s2 := dr.grown.size
  have hb0 : Below w2.heap.size w2 (w2.alloc (.cells #[] 3)) := (Below.refl _ _).alloc (Nat.le_refl _) _
  have H0 : Hid (PAt w2 w.heap.size a len cap [] (some ⟨w2.heap.size, 0, none⟩) 0 0 (w2.alloc (.cells #[] 3))) :=
    ⟨dr.cur.up hb0, (ISt.start w2).own, grown_of_below hb0 _, by omega⟩
  have HCd := hideIt dr.code
  have HBl := hideIt hb2
  have HB := hideIt (fun (W : World) (hc : Cur W w.heap.size a len cap) (hd : Code W w.heap.size a len) => l01Below_any 10000 (by omega) (by omega) W w.heap.size a len cap hl hc hd)
  clear dr HP hb hx hb0 hb2
  go_wp2
  go_loopw [4, 5] (fun r i wr => ∃ (k c1 : Nat) (a1 : Option Addr) (ls : List Int), k ≤ 12 ∧ i = .int .i64 (k : Int) ∧ r = .slice a1 k c1 ∧ Hid (ls.length = k ∧ ∀ z ∈ ls, 0 ≤ z ∧ z < 10000) ∧ Hid (PAt w2 w.heap.size a len cap ls a1 k c1 wr)) (fun _ i _ => 12 - (intOf i).toNat)
  case atStart => exact ⟨0, 0, _, [], by omega, rfl, rfl, ⟨rfl, by simp⟩, H0⟩
  case round =>
    obtain ⟨k, c1, a1, ls, hk, rfl, rfl, HL, HT⟩ := hrel
    clear H0
    by_cases hlt : k < 12
    · have HX := hideIt (HB.out wr HT.out.cur (HT.out.code HCd.out))
      go_wp2_with (go_at_call 42; refine HX.out.mono ?_; rintro e w3 ⟨x, hx, rfl, d3⟩; refine Hid.out ?_)
      refine (show ∀ {p : Prop}, p → Hid p from fun h => h) ?_
      have HT3 := hideIt ((HT.out.drawn d3).up ((Below.refl _ w3).alloc (Nat.le_refl _) (.cells #[.int .i64 (x : Int)] 3)))
      have HL2 : Hid ((ls ++ [(x : Int)]).length = k + 1 ∧ ∀ z ∈ ls ++ [(x : Int)], 0 ≤ z ∧ z < 10000) := by
        refine ⟨by rw [List.length_append, HL.out.1]; rfl, fun z hz => ?_⟩
        rcases List.mem_append.1 hz with hz | hz
        · exact HL.out.2 z hz
        · simp at hz; omega
      have z3 := HT3.out.grown.size
      simp at z3
      clear HX d3 HT HL
      go_wp2_with (at_builtin; refine wpList_append_own _ rfl _ _ 31 rfl w2.heap.size 3 i0 _ 1 8 Try.underlying31 hi hz0 hz1 hz2 rfl (by decide) _ _ _ rfl HT3.out.own ⟨w3.heap.size, 0, none⟩ 1 1 [.int .i64 (x : Int)] rfl rfl (newsI w3 (x : Int)) (by intro u hu; simp at hu; subst hu; rfl) (by unfold maxLen; omega) (by omega) (by simp; omega) ?_)
      intro v5 w5 hown5 hg5 _
      obtain ⟨a5, c5, rfl, S5⟩ := HT3.out.app hown5 hg5
      have HS5 := hideIt S5
      clear hown5 hg5 HT3 S5
      go_wp2
      exact ⟨⟨k + 1, c5, a5, _, by omega, by go_num, rfl, HL2, HS5⟩, by simp [intOf]; omega⟩
    · obtain rfl : k = 12 := by omega
      obtain ⟨g, c2, hform, _⟩ := HT.out.own.form (by omega)
      simp at hform
      obtain ⟨rfl, rfl⟩ := hform
      go_wp2
      go_ret
      refine ⟨g, c1, 12, ls, HL, rfl, own_mono HT.out.own HBl.out.size, ?_⟩
      exact HBl.out.trans ((Below.refl w.heap.size w2).grown HT.out.grown (by omega) (fun j e => by cases e; exact Nat.le_refl _))
end Go.Proofs.Ytcmjfnaenkdidaa
namespace Go.Proofs.Ytcmjfnaenkdidaa
open Go.RowKit

/-- two rows lie apart -/
def Apart (v v' : Value) : Prop := ∀ g, v.ownBlock = some g → v'.ownBlock ≠ some g
theorem Apart.symm {v v' : Value} (h : Apart v v') : Apart v' v := fun g h1 h2 => h g h2 h1
structure WS (w2 : World) (nn : Nat) (ea eb ec : List EdgeV) (va vb vc : Value) (ma mb mc : Nat) (u : World) : Prop where
  ga : Box2 u w2.heap.size 26 (.int .i64 (nn : Int)) va
  gb : Box2 u (w2.heap.size + 1) 26 (.int .i64 (nn : Int)) vb
  oa : u.ownsRow (w2.heap.size + 2) 28 2 va ma (ecells ea)
  ob : u.ownsRow (w2.heap.size + 2) 28 2 vb mb (ecells eb)
  oc : u.ownsRow (w2.heap.size + 2) 28 2 vc mc (ecells ec)
  ab : Apart va vb
  ac : Apart va vc
  bc : Apart vb vc
  bel : Below w2.heap.size w2 u
section
variable {w2 : World} {nn : Nat} {ea eb ec : List EdgeV} {va vb vc : Value} {ma mb mc : Nat} {u v : World}
theorem WS.size (h : WS w2 nn ea eb ec va vb vc ma mb mc u) : w2.heap.size + 2 ≤ u.heap.size := by have := h.gb.lt; omega
theorem WS.up (h : WS w2 nn ea eb ec va vb vc ma mb mc u) (hb : Below u.heap.size u v) : WS w2 nn ea eb ec va vb vc ma mb mc v := by
  have := h.size
  exact ⟨h.ga.below hb (by omega), h.gb.below hb (by omega), own_up h.oa hb, own_up h.ob hb, own_up h.oc hb, h.ab, h.ac, h.bc, h.bel.trans (hb.mono h.bel.size)⟩
theorem kept_row {w w' : World} {B e s n : Nat} {x : Value} {xs : List Value} {row : Option Nat} (h : w.ownsRow B e s x n xs) (hg : w.grownBy w' row) (hr : ∀ g, x.ownBlock = some g → row ≠ some g) : w'.ownsRow B e s x n xs :=
  World.ownsRow.kept h hg (by
    cases hx : x.ownBlock with
    | none => exact .inl rfl
    | some g => exact .inr (fun e => hr g hx e.symm))
/-- behind an append to the first row -/
theorem WS.rowA (h : WS w2 nn ea eb ec va vb vc ma mb mc u) (hg : u.grownBy v va.ownBlock) : Box2 v w2.heap.size 26 (.int .i64 (nn : Int)) va ∧ Box2 v (w2.heap.size + 1) 26 (.int .i64 (nn : Int)) vb ∧ v.ownsRow (w2.heap.size + 2) 28 2 vb mb (ecells eb) ∧ v.ownsRow (w2.heap.size + 2) 28 2 vc mc (ecells ec) ∧ Below w2.heap.size w2 v :=
  ⟨h.ga.grown hg (fun e => by have := (h.oa.lt _ e.symm).1; omega), h.gb.grown hg (fun e => by have := (h.oa.lt _ e.symm).1; omega), kept_row h.ob hg (fun g h1 => (h.ab.symm g h1)), kept_row h.oc hg (fun g h1 => (h.ac.symm g h1)), h.bel.grown hg h.bel.size (fun j hj => by have := (h.oa.lt _ hj).1; omega)⟩
theorem WS.rowB (h : WS w2 nn ea eb ec va vb vc ma mb mc u) (hg : u.grownBy v vb.ownBlock) : Box2 v w2.heap.size 26 (.int .i64 (nn : Int)) va ∧ Box2 v (w2.heap.size + 1) 26 (.int .i64 (nn : Int)) vb ∧ v.ownsRow (w2.heap.size + 2) 28 2 va ma (ecells ea) ∧ v.ownsRow (w2.heap.size + 2) 28 2 vc mc (ecells ec) ∧ Below w2.heap.size w2 v :=
  ⟨h.ga.grown hg (fun e => by have := (h.ob.lt _ e.symm).1; omega), h.gb.grown hg (fun e => by have := (h.ob.lt _ e.symm).1; omega), kept_row h.oa hg (fun g h1 => (h.ab g h1)), kept_row h.oc hg (fun g h1 => (h.bc.symm g h1)), h.bel.grown hg h.bel.size (fun j hj => by have := (h.ob.lt _ hj).1; omega)⟩
theorem WS.rowC (h : WS w2 nn ea eb ec va vb vc ma mb mc u) (hg : u.grownBy v vc.ownBlock) : Box2 v w2.heap.size 26 (.int .i64 (nn : Int)) va ∧ Box2 v (w2.heap.size + 1) 26 (.int .i64 (nn : Int)) vb ∧ v.ownsRow (w2.heap.size + 2) 28 2 va ma (ecells ea) ∧ v.ownsRow (w2.heap.size + 2) 28 2 vb mb (ecells eb) ∧ Below w2.heap.size w2 v :=
  ⟨h.ga.grown hg (fun e => by have := (h.oc.lt _ e.symm).1; omega), h.gb.grown hg (fun e => by have := (h.oc.lt _ e.symm).1; omega), kept_row h.oa hg (fun g h1 => (h.ac g h1)), kept_row h.ob hg (fun g h1 => (h.bc g h1)), h.bel.grown hg h.bel.size (fun j hj => by have := (h.oc.lt _ hj).1; omega)⟩
/-- the row that came lies where the old one lay, or is new -/
theorem apart_new {B e s n : Nat} {x y : Value} {xs : List Value} {g m cap H : Nat} (h : Apart x y) (hy : u.ownsRow B e s y n xs) (hat : x.ownBlock = some g ∨ g = H) (hH : u.heap.size ≤ H) : Apart (.slice (some ⟨g, 0, none⟩) m cap) y := by
  intro q h1 h2
  have h3 : q = g := by simp [Value.ownBlock] at h1; exact h1.symm
  subst h3
  rcases hat with h4 | h4
  · exact h q h4 h2
  · have := (hy.lt q h2).2
    omega
theorem set_ne {w : World} {B e s n G j : Nat} {x : Value} {xs : List Value} {y : Value} (h : w.ownsRow B e s x n xs) (hG : G < B) : (w.setCell ⟨G, j, none⟩ y).ownsRow B e s x n xs :=
  kept_row h (grownSet w G j y) (fun g h1 e => by simp at e; have := (h.lt g h1).1; omega)
theorem Box2.set1 {w : World} {b : Nat} {t : TypeId} {v0 v1 : Value} (h : Box2 w b t v0 v1) (u1 : Value) : Box2 (w.setCell ⟨b, 1, none⟩ u1) b t v0 u1 := by
  unfold Box2
  rw [heap_setCell_same _ b 1 _ t u1 h]; rfl
theorem Box2.setO {w : World} {b G j : Nat} {t : TypeId} {v0 v1 : Value} (h : Box2 w b t v0 v1) (u1 : Value) (hG : b ≠ G) : Box2 (w.setCell ⟨G, j, none⟩ u1) b t v0 v1 := by
  unfold Box2
  rw [heap_setCell_other _ _ _ _ (by first | exact hG | exact fun e => hG e.symm)]
  exact h
theorem WS.appA (h : WS w2 nn ea eb ec va vb vc ma mb mc u) (f : EdgeV) {g cap H : Nat} (ho : v.ownsRow (w2.heap.size + 2) 28 2 (.slice (some ⟨g, 0, none⟩) (ma + 1) cap) (ma + 1) (ecells ea ++ [.int .i64 f.1, .int .i64 f.2])) (hg : u.grownBy v va.ownBlock) (hat : va.ownBlock = some g ∨ g = H) (hH : u.heap.size ≤ H) :
    WS w2 nn (ea ++ [f]) eb ec (.slice (some ⟨g, 0, none⟩) (ma + 1) cap) vb vc (ma + 1) mb mc (v.setCell ⟨w2.heap.size, 1, none⟩ (.slice (some ⟨g, 0, none⟩) (ma + 1) cap)) := by
  obtain ⟨h1, h2, h3, h4, h5⟩ := h.rowA hg
  rw [← ecells_snoc] at ho
  exact ⟨h1.set1 _, h2.setO _ (by omega), set_ne ho (by omega), set_ne h3 (by omega), set_ne h4 (by omega), apart_new h.ab h.ob hat hH, apart_new h.ac h.oc hat hH, h.bc, h5.setCell (p := ⟨w2.heap.size, 1, none⟩) (Nat.le_refl _) _⟩
theorem WS.appB (h : WS w2 nn ea eb ec va vb vc ma mb mc u) (f : EdgeV) {g cap H : Nat} (ho : v.ownsRow (w2.heap.size + 2) 28 2 (.slice (some ⟨g, 0, none⟩) (mb + 1) cap) (mb + 1) (ecells eb ++ [.int .i64 f.1, .int .i64 f.2])) (hg : u.grownBy v vb.ownBlock) (hat : vb.ownBlock = some g ∨ g = H) (hH : u.heap.size ≤ H) :
    WS w2 nn ea (eb ++ [f]) ec va (.slice (some ⟨g, 0, none⟩) (mb + 1) cap) vc ma (mb + 1) mc (v.setCell ⟨w2.heap.size + 1, 1, none⟩ (.slice (some ⟨g, 0, none⟩) (mb + 1) cap)) := by
  obtain ⟨h1, h2, h3, h4, h5⟩ := h.rowB hg
  rw [← ecells_snoc] at ho
  exact ⟨h1.setO _ (by omega), h2.set1 _, set_ne h3 (by omega), set_ne ho (by omega), set_ne h4 (by omega), (apart_new h.ab.symm h.oa hat hH).symm, h.ac, apart_new h.bc h.oc hat hH, h5.setCell (p := ⟨w2.heap.size + 1, 1, none⟩) (by show w2.heap.size ≤ w2.heap.size + 1; omega) _⟩
theorem WS.appC (h : WS w2 nn ea eb ec va vb vc ma mb mc u) (f : EdgeV) {g cap H : Nat} (ho : v.ownsRow (w2.heap.size + 2) 28 2 (.slice (some ⟨g, 0, none⟩) (mc + 1) cap) (mc + 1) (ecells ec ++ [.int .i64 f.1, .int .i64 f.2])) (hg : u.grownBy v vc.ownBlock) (hat : vc.ownBlock = some g ∨ g = H) (hH : u.heap.size ≤ H) :
    WS w2 nn ea eb (ec ++ [f]) va vb (.slice (some ⟨g, 0, none⟩) (mc + 1) cap) ma mb (mc + 1) v := by
  obtain ⟨h1, h2, h3, h4, h5⟩ := h.rowC hg
  rw [← ecells_snoc] at ho
  exact ⟨h1, h2, h3, h4, ho, h.ab, (apart_new h.ac.symm h.oa hat hH).symm, (apart_new h.bc.symm h.ob hat hH).symm, h5⟩
theorem WS.lens (h : WS w2 nn ea eb ec va vb vc ma mb mc u) : ea.length = ma ∧ eb.length = mb ∧ ec.length = mc := by
  have h1 := h.oa.1
  have h2 := h.ob.1
  have h3 := h.oc.1
  rw [ecells_length] at h1 h2 h3
  omega
end
end Go.Proofs.Ytcmjfnaenkdidaa
namespace Go.Proofs.Ytcmjfnaenkdidaa
open Go.RowKit

theorem own_nil {w : World} {B e s n c : Nat} {a : Option Addr} {xs : List Value} (h : w.ownsRow B e s (.slice a n c) n xs) : a = none → n = 0 ∧ c = 0 := by
  rintro rfl
  rcases h.2 with ⟨hv, h0⟩ | ⟨g, cap, cur, hv, _⟩
  · simp at hv; exact ⟨h0, hv.2⟩
  · simp at hv
theorem own_cap {w : World} {B e s n c : Nat} {a : Option Addr} {xs : List Value} (h : w.ownsRow B e s (.slice a n c) n xs) : n ≤ c := by
  rcases h.2 with ⟨hv, h0⟩ | ⟨g, cap, cur, hv, _, _, r1, _⟩
  · omega
  · simp at hv; obtain ⟨_, rfl⟩ := hv; exact r1
theorem bupW {w u v : World} (h : Below w.heap.size w u) (hb : Below u.heap.size u v) : Below w.heap.size w v := h.trans (hb.mono h.size)
theorem ts_two {u : World} {a1 a2 : Option Addr} {c1 c2 n : Nat} {l1 l2 : List Int} (h1 : u.ownsRow 0 3 1 (.slice a1 n c1) n (ic l1)) (h2 : u.ownsRow 0 3 1 (.slice a2 n c2) n (ic l2)) (hc1 : n ≤ c1) (hc2 : n ≤ c2) :
    Ts (u.alloc (.cells #[.slice a1 n c1, .slice a2 n c2] 31)) (u.alloc (.cells #[.slice a1 n c1, .slice a2 n c2] 31)).heap.size (some ⟨u.heap.size, 0, none⟩) 2 [l1, l2] := by
  have hb : Below u.heap.size u (u.alloc (.cells #[.slice a1 n c1, .slice a2 n c2] 31)) := (Below.refl _ _).alloc (Nat.le_refl _) _
  have i1 := (Is_of_own h1)
  have i2 := (Is_of_own h2)
  refine ⟨rfl, .inr ⟨u.heap.size, 0, rfl, by simp, fun j t ht => ?_⟩⟩
  rcases j with _ | _ | j
  · simp at ht
    subst ht
    exact ⟨a1, c1, by rw [i1.1]; simp [go_sem], by rw [i1.1]; exact i1.up hb, by rw [i1.1]; exact hc1⟩
  · simp at ht
    subst ht
    exact ⟨a2, c2, by rw [i2.1]; simp [go_sem], by rw [i2.1]; exact i2.up hb, by rw [i2.1]; exact hc2⟩
  · simp at ht
theorem pes_two {u : World} {a1 a2 : Option Addr} {m1 c1 m2 c2 B : Nat} {e1 e2 : List EdgeV} (h1 : u.ownsRow B 28 2 (.slice a1 m1 c1) m1 (ecells e1)) (h2 : u.ownsRow B 28 2 (.slice a2 m2 c2) m2 (ecells e2)) :
    PEs (u.alloc (.cells #[.slice a1 m1 c1, .slice a2 m2 c2] 24)) (u.alloc (.cells #[.slice a1 m1 c1, .slice a2 m2 c2] 24)).heap.size (some ⟨u.heap.size, 0, none⟩) 2 [⟨a1, m1, c1, e1⟩, ⟨a2, m2, c2, e2⟩] := by
  have hb : Below u.heap.size u (u.alloc (.cells #[.slice a1 m1 c1, .slice a2 m2 c2] 24)) := (Below.refl _ _).alloc (Nat.le_refl _) _
  refine ⟨rfl, .inr ⟨u.heap.size, 0, rfl, by simp, fun j p hp => ?_⟩, fun p hp => ?_⟩
  · rcases j with _ | _ | j
    · simp at hp
      subst hp
      simp [go_sem]
    · simp at hp
      subst hp
      simp [go_sem]
    · simp at hp
  · simp at hp
    rcases hp with rfl | rfl
    · exact ⟨(Es_of_own h1).up hb, own_nil h1⟩
    · exact ⟨(Es_of_own h2).up hb, own_nil h2⟩

set_option maxRecDepth 100000 in
set_option maxHeartbeats 16000000 in
theorem fnWholes.walk (a : Option Addr) (len cap : Nat) (w : World) (hcode : Code w w.heap.size a len) :
    Calls Try.prog 3 #[.slice a len cap] w fun e w' => e = .returned (.bool true) ∧ Below w.heap.size w w' := by
  obtain ⟨i0, hi, hz0, hz1, hz2⟩ := info_parts infoIE
  have HBig := hideIt (big_any w a len cap)
  by_cases hl : len ≤ 1048576
  case neg =>
    have d0 : decide ((1048576 : Int) < (len : Int)) = true := decide_eq_true (by omega)
    clear hcode
    go_enter Try.func3, Try.ntmps3
    go_wp2_with (go_at_call 8; refine HBig.out.mono ?_; rintro e w1 ⟨rfl, rfl⟩)
    go_ret
    exact ⟨rfl, Below.refl _ _⟩
  case pos =>
    have d0 : decide ((1048576 : Int) < (len : Int)) = false := decide_eq_false (by omega)
    have H1 := hideIt (drawRightGraph_any w a len cap hl hcode)
    have HCd := hideIt hcode
    clear hcode
    go_enter Try.func3, Try.ntmps3
    go_wp2_with (go_at_call 8; refine HBig.out.mono ?_; rintro e w0 ⟨rfl, hw⟩; have hw' := hw.symm; subst hw'; clear hw; refine Hid.out ?_)
    refine (show ∀ {p : Prop}, p → Hid p from fun h => h) ?_
    clear HBig
    go_wp2_with (go_at_call 9; refine H1.out.mono ?_; rintro x w1 ⟨nn, es, e, aE, m, cE, hR, _, rfl, oE, b1⟩; refine Hid.out ?_)
    refine (show ∀ {p : Prop}, p → Hid p from fun h => h) ?_
    obtain ⟨u1, hu1⟩ : ∃ u1, u1 = (w1.alloc (.cells #[.int .i64 (nn : Int), .slice aE m cE] 26)).alloc (.cells #[.int .i64 e.1, .int .i64 e.2] 28) := ⟨_, rfl⟩
    have bu : Below w1.heap.size w1 u1 := by rw [hu1]; exact ((Below.refl _ _).alloc (Nat.le_refl _) _).alloc (by simp) _
    have zu : u1.heap.size = w1.heap.size + 2 := by rw [hu1]; simp
    have BG : Box2 u1 w1.heap.size 26 (.int .i64 (nn : Int)) (.slice aE m cE) := by rw [hu1]; exact (Box2.new w1 _ _ _ _ rfl).alloc _
    have B1 : Below w.heap.size w u1 := bupW b1 bu
    have HP := hideIt (drawPlaces_any u1 a len cap hl (code_up HCd.out B1))
    have oE1 := own_up oE bu
    clear H1 oE HCd b1 bu
    go_upto_region 4 with fail
    rw [← hu1]
    clear hu1
    go_wp2_with (go_at_call 10; refine HP.out.mono ?_; rintro x w2 ⟨gp, cp, mp, ps, hps, rfl, oP, b2⟩; refine Hid.out ?_)
    refine (show ∀ {p : Prop}, p → Hid p from fun h => h) ?_
    have B2 := bupW B1 b2
    have z2 := b2.size
    have BG2 := BG.below b2 (by omega)
    have HEs := hideIt (Es_of_own (own_up oE1 b2))
    have HG1 := hideIt BG2.cell1
    have HG0 := hideIt BG2.cell0
    have g0 := BG2.cell0
    have hgz : w1.heap.size < w2.heap.size := by omega
    obtain ⟨hpl, hpr⟩ := hps.out
    have hmp : mp = 12 := by have := oP.1; rw [ic_len] at this; omega
    subst hmp
    have HPc := hideIt (fun j (hj : j < 12) => (show ∃ z : Int, w2.cell? ⟨gp, j, none⟩ = some (.int .i64 z) ∧ 0 ≤ z ∧ z < 10000 by
      obtain ⟨z, hz⟩ : ∃ z, ps[j]? = some z := ⟨ps[j]'(by omega), List.getElem?_eq_getElem (by omega)⟩
      exact ⟨z, by rw [oP.cellAt j (by omega)]; exact ic_at hz, hpr z (List.mem_of_getElem? hz)⟩))
    have hgp := (oP.lt gp rfl).2
    have hm16 : m ≤ 16 := by have := hR.out.len; have := HEs.out.1; omega
    have hem := HEs.out.1
    have n12 := hR.out.n12
    have n2 := hR.out.n2
    obtain ⟨W3, hW3⟩ : ∃ W3, W3 = ((w2.alloc (.cells #[.int .i64 (nn : Int), .slice none 0 0] 26)).alloc (.cells #[.int .i64 (nn : Int), .slice none 0 0] 26)).alloc (.cells #[] 28) := ⟨_, rfl⟩
    have S3 : WS w2 nn [] [] [] (.slice none 0 0) (.slice none 0 0) (.slice (some ⟨w2.heap.size + 1 + 1, 0, none⟩) 0 0) 0 0 0 W3 := by
      rw [hW3]
      have oc := World.ownsRow_lit (base := w2.heap.size + 2) (e := 28) (size := 2) ((w2.alloc (.cells #[.int .i64 (nn : Int), .slice none 0 0] 26)).alloc (.cells #[.int .i64 (nn : Int), .slice none 0 0] 26)) #[] 0 (by simp) (by unfold maxLen; omega) (by simp)
      refine ⟨((Box2.new w2 _ _ _ _ rfl).alloc _).alloc _, (Box2.new _ _ _ _ _ (by simp)).alloc _, World.ownsRow_nil _ _ _ _, World.ownsRow_nil _ _ _ _, by simpa [ecells] using oc, (fun g h => by cases h), (fun g h => by cases h), (fun g h => by cases h), ?_⟩
      exact (((Below.refl _ _).alloc (Nat.le_refl _) _).alloc (by simp) _).alloc (by simp; omega) _
    clear HP oP b2 B1 BG BG2 oE1 hpl hpr hps zu
    go_upto_region 8 with fail
    rw [← hW3]
    clear hW3 g0
    go_wp2
    go_loopw [8, 9] (fun v i wr => ∃ (k : Nat) (ea eb ec : List EdgeV) (aa : Option Addr) (ma ca : Nat) (ab : Option Addr) (mb cb : Nat) (ac : Option Addr) (mc cc : Nat), k ≤ m ∧ i = .int .i64 (k : Int) ∧ v = .slice ac mc cc ∧ Hid (SP es k ea eb ec) ∧ WS w2 nn ea eb ec (.slice aa ma ca) (.slice ab mb cb) (.slice ac mc cc) ma mb mc wr) (fun _ i _ => m - (intOf i).toNat)
    case atStart => exact ⟨0, [], [], [], none, 0, 0, none, 0, 0, _, 0, 0, by omega, rfl, rfl, SP.start es, S3⟩
    case round =>
      obtain ⟨k, ea, eb, ec, aa, ma, ca, ab, mb, cb, ac, mc, cc, hk, rfl, rfl, hSP, hW⟩ := hrel
      clear S3
      have hlen3 : ma + mb + mc = k := by
        have h1 := hSP.out.pm.length_eq
        have h2 := hW.lens
        rw [List.length_append, List.length_append, List.length_take] at h1
        omega
      have k1 : wr.cell? ⟨w1.heap.size, 1, none⟩ = some (.slice aE m cE) := by rw [hW.bel.cell (by show w1.heap.size < _; omega)]; exact HG1.out
      by_cases hlt : k < m
      · have hb1 : (0 : Int) ≤ (k : Int) := by omega
        have hb2 : (k : Int) < (m : Int) := by omega
        rcases HEs.out.2 with hz | ⟨b, off, rfl, hbl, hc⟩
        · omega
        · obtain ⟨f, hf⟩ : ∃ f, es[k]? = some f := ⟨es[k]'(by omega), List.getElem?_eq_getElem (by omega)⟩
          obtain ⟨c0, c1⟩ := hc k f hf
          have e0 : wr.cell? ⟨b, off + k * 2, none⟩ = some (.int .i64 f.1) := by rw [hW.bel.cell hbl]; exact c0
          have e1 : wr.cell? ⟨b, off + k * 2 + 1, none⟩ = some (.int .i64 f.2) := by rw [hW.bel.cell hbl]; exact c1
          obtain ⟨z, hzc, hz0', hz1'⟩ := HPc.out (k % 12) (by omega)
          have p1 : wr.cell? ⟨gp, k % 12, none⟩ = some (.int .i64 z) := by rw [hW.bel.cell (by show gp < _; omega)]; exact hzc
          have t1 : (k : Int).tmod 12 = ((k % 12 : Nat) : Int) := by rw [Int.tmod_eq_emod_of_nonneg (by omega)]; omega
          have t2 : (k : Int) % 12 = ((k % 12 : Nat) : Int) := by omega
          have t3 : (0 : Int) ≤ ((k % 12 : Nat) : Int) := by omega
          have t4 : ((k % 12 : Nat) : Int) < 12 := by omega
          generalize k % 12 = j12 at *
          obtain ⟨r, hr, hr3⟩ : ∃ r : Nat, (z + (k : Int)).tmod 3 = (r : Int) ∧ r < 3 := ⟨((z + (k : Int)) % 3).toNat, by rw [Int.tmod_eq_emod_of_nonneg (by omega)]; omega, by omega⟩
          have hwz : IntKind.i64.wrap (z + (k : Int)) = z + (k : Int) := by rw [IntKind.wrap_i64]; omega
          clear hzc
          rcases (show r = 0 ∨ r = 1 ∨ r = 2 by omega) with rfl | rfl | rfl
          · have q1 : (z + (k : Int)).tmod 3 = 0 := hr
            clear hr hr3
            have HU := hideIt (hW.up (((Below.refl wr.heap.size wr).alloc (Nat.le_refl _) (.cells #[.int .i64 f.1, .int .i64 f.2] 28)).drew))
            have HSP := hideIt (hSP.out.a hf)
            have HK : Hid (∀ w1' : World, ((wr.alloc (.cells #[.int .i64 f.1, .int .i64 f.2] 28)).drew).grownBy w1' (Value.slice aa ma ca).ownBlock → (w1'.cell? ⟨w2.heap.size, 1, none⟩ = some (Value.slice aa ma ca) ∧ w1'.frozen? ⟨w2.heap.size, 1, none⟩ = false) ∧ w1'.cell? ⟨w1.heap.size, 1, none⟩ = some (.slice (some ⟨b, off, none⟩) m cE) ∧ w1'.cell? ⟨b, off + k * 2, none⟩ = some (.int .i64 f.1) ∧ w1'.cell? ⟨b, off + k * 2 + 1, none⟩ = some (.int .i64 f.2)) := fun w1' hg => by
              obtain ⟨h1, h2, _, _, h5⟩ := HU.out.rowA hg
              exact ⟨⟨h1.cell1, h1.frozen 1⟩, by rw [h5.cell (by show w1.heap.size < _; omega)]; exact HG1.out, by rw [h5.cell hbl]; exact c0, by rw [h5.cell hbl]; exact c1⟩
            have a1 := hW.ga.cell1
            have ow := hideIt hW.oa
            have hlm := hW.lens
            have hzz := hW.size
            have l1 : w2.heap.size < wr.heap.size := by omega
            have l2 : w2.heap.size + 1 < wr.heap.size := by omega
            have l3 : w1.heap.size < wr.heap.size := by omega
            have l4 : b < wr.heap.size := by omega
            have HZ : Hid (((wr.alloc (.cells #[.int .i64 f.1, .int .i64 f.2] 28)).drew).heap.size ≤ wr.heap.size + 1) := by show _ ≤ _; simp
            clear hW hc hf c0 c1
            go_wp2
            go_region_law (refine step_append_lies _ (by rfl) _ _ _ (by rfl) (w2.heap.size + 2) 28 i0 _ 2 16 Try.underlying24 hi hz0 hz1 hz2 rfl (by omega) _ ma _ (by rfl) ((ow.out.alloc _).drew) ⟨wr.heap.size, 0, none⟩ 1 1 [.int .i64 f.1, .int .i64 f.2] (by rfl) (by rfl) (World.news_of_block (cs := #[.int .i64 f.1, .int .i64 f.2]) (t := 28) (fr := (0, 0)) (heap_alloc_new wr _)) (by simp [Value.oneCell']) (by omega) (by unfold maxLen; omega) (by omega) (by simp; omega) (wr.heap.size + 1) (by simp) ?_; intro g1 cap1 w3 hown3 hg3 hat3 hlt3; obtain ⟨⟨y0, y1⟩, y2, y3, y4⟩ := HK.out _ hg3)
            all_goals
              have HS3 := hideIt (HU.out.appA f hown3 hg3 hat3 HZ.out)
              clear hown3 hg3 hat3 hlt3 HK ow
              go_wp2
              exact ⟨⟨k + 1, ea ++ [f], eb, ec, some ⟨g1, 0, none⟩, ma + 1, cap1, ab, mb, cb, ac, mc, cc, by omega, by go_num, rfl, HSP, HS3.out⟩, by simp [intOf]; omega⟩
          · have q1 : (z + (k : Int)).tmod 3 = 1 := hr
            clear hr hr3
            have HU := hideIt (hW.up (((Below.refl wr.heap.size wr).alloc (Nat.le_refl _) (.cells #[.int .i64 f.1, .int .i64 f.2] 28)).drew))
            have HSP := hideIt (hSP.out.b hf)
            have HK : Hid (∀ w1' : World, ((wr.alloc (.cells #[.int .i64 f.1, .int .i64 f.2] 28)).drew).grownBy w1' (Value.slice ab mb cb).ownBlock → (w1'.cell? ⟨w2.heap.size + 1, 1, none⟩ = some (Value.slice ab mb cb) ∧ w1'.frozen? ⟨w2.heap.size + 1, 1, none⟩ = false) ∧ w1'.cell? ⟨w1.heap.size, 1, none⟩ = some (.slice (some ⟨b, off, none⟩) m cE) ∧ w1'.cell? ⟨b, off + k * 2, none⟩ = some (.int .i64 f.1) ∧ w1'.cell? ⟨b, off + k * 2 + 1, none⟩ = some (.int .i64 f.2)) := fun w1' hg => by
              obtain ⟨h1, h2, _, _, h5⟩ := HU.out.rowB hg
              exact ⟨⟨h2.cell1, h2.frozen 1⟩, by rw [h5.cell (by show w1.heap.size < _; omega)]; exact HG1.out, by rw [h5.cell hbl]; exact c0, by rw [h5.cell hbl]; exact c1⟩
            have a1 := hW.gb.cell1
            have ow := hideIt hW.ob
            have hlm := hW.lens
            have hzz := hW.size
            have l1 : w2.heap.size < wr.heap.size := by omega
            have l2 : w2.heap.size + 1 < wr.heap.size := by omega
            have l3 : w1.heap.size < wr.heap.size := by omega
            have l4 : b < wr.heap.size := by omega
            have HZ : Hid (((wr.alloc (.cells #[.int .i64 f.1, .int .i64 f.2] 28)).drew).heap.size ≤ wr.heap.size + 1) := by show _ ≤ _; simp
            clear hW hc hf c0 c1
            go_wp2
            go_region_law (refine step_append_lies _ (by rfl) _ _ _ (by rfl) (w2.heap.size + 2) 28 i0 _ 2 16 Try.underlying24 hi hz0 hz1 hz2 rfl (by omega) _ mb _ (by rfl) ((ow.out.alloc _).drew) ⟨wr.heap.size, 0, none⟩ 1 1 [.int .i64 f.1, .int .i64 f.2] (by rfl) (by rfl) (World.news_of_block (cs := #[.int .i64 f.1, .int .i64 f.2]) (t := 28) (fr := (0, 0)) (heap_alloc_new wr _)) (by simp [Value.oneCell']) (by omega) (by unfold maxLen; omega) (by omega) (by simp; omega) (wr.heap.size + 1) (by simp) ?_; intro g1 cap1 w3 hown3 hg3 hat3 hlt3; obtain ⟨⟨y0, y1⟩, y2, y3, y4⟩ := HK.out _ hg3)
            all_goals
              have HS3 := hideIt (HU.out.appB f hown3 hg3 hat3 HZ.out)
              clear hown3 hg3 hat3 hlt3 HK ow
              go_wp2
              exact ⟨⟨k + 1, ea, eb ++ [f], ec, aa, ma, ca, some ⟨g1, 0, none⟩, mb + 1, cap1, ac, mc, cc, by omega, by go_num, rfl, HSP, HS3.out⟩, by simp [intOf]; omega⟩
          · have q1 : (z + (k : Int)).tmod 3 = 2 := hr
            clear hr hr3
            have HU := hideIt (hW.up ((Below.refl wr.heap.size wr).alloc (Nat.le_refl _) (.cells #[.int .i64 f.1, .int .i64 f.2] 28)))
            have HSP := hideIt (hSP.out.c hf)
            have ow := hideIt hW.oc
            have hlm := hW.lens
            have hzz := hW.size
            clear hW hc hf c0 c1
            go_wp2_with (at_builtin; refine wpList_append_lies _ rfl _ _ 24 rfl (w2.heap.size + 2) 28 i0 _ 2 16 Try.underlying24 hi hz0 hz1 hz2 rfl (by decide) _ _ _ rfl (ow.out.alloc _) ⟨wr.heap.size, 0, none⟩ 1 1 [.int .i64 f.1, .int .i64 f.2] rfl rfl (news2 _ f) (by intro u hu; simp at hu; rcases hu with rfl | rfl <;> rfl) (by omega) (by unfold maxLen; omega) (by omega) (by simp; omega) (wr.heap.size + 1) (by simp) ?_)
            intro g1 cap1 w3 hown3 hg3 hat3 hlt3
            have HS3 := hideIt (HU.out.appC f hown3 hg3 hat3 (by simp))
            clear hown3 hg3 hat3 hlt3 ow
            go_wp2
            exact ⟨⟨k + 1, ea, eb, ec ++ [f], aa, ma, ca, ab, mb, cb, some ⟨g1, 0, none⟩, mc + 1, cap1, by omega, by go_num, rfl, HSP, HS3.out⟩, by simp [intOf]; omega⟩
      · obtain rfl : k = m := by omega
        have LW := lawW hR.out (by rw [hem]; exact hSP.out)
        have HLW := hideIt LW
        have hz3 := hW.size
        have HC := hideIt (fun u (hu : Good wr u) => (show (u.cell? ⟨w1.heap.size, 0, none⟩ = some (.int .i64 (nn : Int))) ∧ (u.cell? ⟨w2.heap.size, 0, none⟩ = some (.int .i64 (nn : Int)) ∧ u.cell? ⟨w2.heap.size, 1, none⟩ = some (.slice aa ma ca)) ∧ u.cell? ⟨w2.heap.size + 1, 0, none⟩ = some (.int .i64 (nn : Int)) ∧ u.cell? ⟨w2.heap.size + 1, 1, none⟩ = some (.slice ab mb cb) from
          ⟨by rw [(hW.up hu).bel.cell (by show w1.heap.size < _; omega)]; exact HG0.out, ⟨(hW.up hu).ga.cell0, (hW.up hu).ga.cell1⟩, (hW.up hu).gb.cell0, (hW.up hu).gb.cell1⟩))
        have hL : ∀ (l : List EdgeV) (al : Option Addr) (ml cl : Nat), gB (nn : Int) l = true → ml ≤ 1048576 → ∀ u, Good wr u → Es u u.heap.size al ml l → Calls Try.prog 12 #[.agg #[.int .i64 (nn : Int), .slice al ml cl]] u fun e v => ∃ a1 c1, e = .returned (.slice a1 nn c1) ∧ Hid (v.ownsRow 0 3 1 (.slice a1 nn c1) nn (ic (labs l nn nn)) ∧ nn ≤ c1) ∧ Good wr v ∧ Below u.heap.size u v := fun l al ml cl hg hml u hu hE =>
          (sLabels_any (nn : Int) l ml al cl hml u hE).mono fun e v ⟨a1, m1, c1, he, ho, hb⟩ => by
            have e1 : labE (nn : Int) l = labs l nn nn := by unfold labE; rw [if_pos hg, Int.toNat_natCast]
            rw [e1] at ho
            have e2 : m1 = nn := by have := ho.1; rw [ic_len, labs_len] at this; omega
            subst e2
            exact ⟨a1, c1, he, ⟨own_mono ho (by omega), own_cap ho⟩, Good.up hu hb, hb⟩
        have hma : ma ≤ 1048576 := by omega
        have hmb : mb ≤ 1048576 := by omega
        have D0 := (Good.refl wr).drew
        have HA1 := hideIt (hL ea aa ma ca LW.ga hma _ D0 (Es_of_own (hW.up D0).oa))
        have HB1 := hideIt (fun u (hu : Good wr u) => hL eb ab mb cb LW.gb hmb u hu (Es_of_own (hW.up hu).ob))
        have HG20 := hideIt (fun u (hu : Good wr u) => hL es aE k cE LW.gg (by omega) u hu ((HEs.out.up (hW.up hu).bel)))
        have HW1 := hideIt (fun (u : World) (hu : Good wr u) a1 c1 a2 c2 (o1 : u.ownsRow 0 3 1 (.slice a1 nn c1) nn (ic (labs ea nn nn)) ∧ nn ≤ c1) (o2 : u.ownsRow 0 3 1 (.slice a2 nn c2) nn (ic (labs eb nn nn)) ∧ nn ≤ c2) => (show Calls Try.prog 11 #[.int .i64 (nn : Int), .slice (some ⟨u.heap.size, 0, none⟩) 2 2, .slice ac mc cc] (u.alloc (.cells #[.slice a1 nn c1, .slice a2 nn c2] 31)) (fun e v => ∃ a' c', e = .returned (.tuple #[.slice a' nn c', .bool true]) ∧ Hid (v.ownsRow 0 3 1 (.slice a' nn c') nn (ic (labs es nn nn))) ∧ Good wr v ∧ Below u.heap.size u v) from
          (iWholeLabels_yes nn (by omega) n12 [labs ea nn nn, labs eb nn nn] 2 (by omega) _ 2 ec mc (by omega) ac cc (by intro l hl; simp at hl; rcases hl with rfl | rfl; exact LW.la; exact LW.lb) LW.cut _ (ts_two o1.1 o2.1 o1.2 o2.2) (Es_of_own (hW.up (Good.alloc hu _)).oc)).mono fun e v ⟨a', c', he, ho, hb⟩ => ⟨a', c', he, by rw [← LW.whole]; exact own_mono ho (by omega), Good.up (Good.alloc hu _) hb, bupW (bel1a _ _) hb⟩))
        have hac := own_nil hW.oc
        have HWe := hideIt (fun (u : World) (hu : Good wr u) (al : Option Addr) (ml cl : Nat) (l : List EdgeV) (hl : u.ownsRow (w2.heap.size + 2) 28 2 (.slice al ml cl) ml (ecells l)) (hml : ml ≤ 1000) => (show Calls Try.prog 13 #[.slice (some ⟨u.heap.size, 0, none⟩) 2 2, .slice ac mc cc] (u.alloc (.cells #[.slice aa ma ca, .slice al ml cl] 24)) (fun e v => ∃ a' m' c', e = .returned (.tuple #[.slice a' m' c', .bool (weO (ea ++ l ++ ec)).isSome]) ∧ Hid (v.ownsRow 0 28 2 (.slice a' m' c') m' (ecells ((weO (ea ++ l ++ ec)).getD []))) ∧ Good wr v ∧ Below u.heap.size u v) from
          (iWholeEdges_any [⟨aa, ma, ca, ea⟩, ⟨al, ml, cl, l⟩] 2 _ 2 (by intro h; cases h) ec mc ac cc hac (by omega) (by simp [pLen]; omega) _ (pes_two (hW.up hu).oa hl) (Es_of_own (hW.up (Good.alloc hu _)).oc)).mono fun e v ⟨a', m', c', he, ho, hb⟩ => by
            have e1 : pAll [⟨aa, ma, ca, ea⟩, ⟨al, ml, cl, l⟩] ++ ec = ea ++ l ++ ec := by simp [pAll]
            rw [e1] at he ho
            exact ⟨a', m', c', he, own_mono ho (by omega), Good.up (Good.alloc hu _) hb, bupW (bel1a _ _) hb⟩))
        have HOa := hideIt (fun u (hu : Good wr u) => (hW.up hu).oa)
        have HOb := hideIt (fun u (hu : Good wr u) => (hW.up hu).ob)
        have HBl := hideIt (fun u (hu : Good wr u) => bupW B2 (bupW hW.bel hu))
        have HSmI := hideIt (fun (u : World) a1 c1 a2 c2 (o1 : u.ownsRow 0 3 1 (.slice a1 nn c1) nn (ic (labs es nn nn))) (o2 : u.ownsRow 0 3 1 (.slice a2 nn c2) nn (ic (labs es nn nn))) => sameInts_same (labs es nn nn) nn a1 a2 c1 c2 (by omega) u (Is_of_own o1) (Is_of_own o2))
        have HSmE := hideIt (fun (u : World) (hu : Good wr u) a1 c1 (o1 : u.ownsRow 0 28 2 (.slice a1 k c1) k (ecells es)) => sameEdges_same es k a1 aE c1 cE (by omega) u (Es_of_own o1) (HEs.out.up (hW.up hu).bel))
        have hS0 := HC.out _ D0
        have d3 : decide ((k : Int) < (k : Int)) = false := decide_eq_false (by omega)
        have HK1 := hideIt (fun u (hu : Good wr u) => (show u.cell? ⟨w1.heap.size, 1, none⟩ = some (.slice aE k cE) by rw [(hW.up hu).bel.cell (by show w1.heap.size < _; omega)]; exact HG1.out))
        have htw : (weO (ea ++ ea ++ ec)).isSome = ((ma : Int) == 0) := by
          rw [LW.twice, hW.lens.1]
          by_cases h : ma = 0
          · subst h; rfl
          · have h2 : ((ma : Int) == 0) = false := by simp; omega
            rw [decide_eq_false h, h2]
        have hall := LW.all
        have hma16 : ma ≤ 16 := by omega
        have hmb16 : mb ≤ 16 := by omega
        clear hL LW HLW hlen3 hSP hW HPc HEs HG1
        go_upto_region 17 with fail
        go_region_held3 (fun u => (u.cell? ⟨w1.heap.size, 0, none⟩ = some (.int .i64 (nn : Int))) ∧ (u.cell? ⟨w2.heap.size, 0, none⟩ = some (.int .i64 (nn : Int)) ∧ u.cell? ⟨w2.heap.size, 1, none⟩ = some (.slice aa ma ca)) ∧ u.cell? ⟨w2.heap.size + 1, 0, none⟩ = some (.int .i64 (nn : Int)) ∧ u.cell? ⟨w2.heap.size + 1, 1, none⟩ = some (.slice ab mb cb))
          (first | assumption | exact HC.out _ (Good.alloc G5 _))
          (first
          | (go_at_call 12; refine HA1.out.mono ?_; rintro e w4 ⟨a1, c1, rfl, o1, G4, b4⟩; clear HA1; have hS4 := HC.out _ G4)
          | (go_at_call 12; refine (HB1.out _ G4).mono ?_; rintro e w5 ⟨a2, c2, rfl, o2, G5, b5⟩; have hS5 := HC.out _ G5; have o15 := (And.intro (own_up o1.out.1 b5) o1.out.2))
          | (go_at_call 11; refine (HW1.out _ G5 a1 c1 a2 c2 o15 o2.out).mono ?_; rintro e w6 ⟨a6, c6, rfl, o6, G6, _⟩; have hS6 := HC.out _ G6))
        obtain ⟨_, ⟨s0, s1⟩, s2, s3⟩ := hS6
        have HW18 := hideIt (HWe.out w6 G6 ab mb cb eb (HOb.out _ G6) (by omega))
        rw [hall] at HW18
        simp only [Option.isSome_some, Option.getD_some] at HW18
        clear o1 o2 o15 G4 G5 b4 b5 hS4 hS5 HB1 HW1 hS0
        go_wp2_with (go_at_call 13; refine HW18.out.mono ?_; rintro e w7 ⟨a7, m7, c7, rfl, o7, G7, b7⟩; refine Hid.out ?_)
        refine (show ∀ {p : Prop}, p → Hid p from fun h => h) ?_
        obtain ⟨_, ⟨r0, r1⟩, r2, r3⟩ := HC.out _ G7
        have hm7 : m7 = k := by have := o7.out.1; rw [ecells_length] at this; omega
        subst hm7
        have HW19 := hideIt (HWe.out w7 G7 aa ma ca ea (HOa.out _ G7) (by omega))
        rw [htw] at HW19
        clear HW18 s0 s1 s2 s3 HWe
        go_wp2_with (go_at_call 13; refine HW19.out.mono ?_; rintro e w8 ⟨a8, m8, c8, rfl, _, G8, b8⟩; refine Hid.out ?_)
        refine (show ∀ {p : Prop}, p → Hid p from fun h => h) ?_
        obtain ⟨q0, ⟨q1, q2⟩, _, _⟩ := HC.out _ G8
        have q3 := HK1.out _ G8
        have o68 := hideIt (own_up (own_up o6.out b7) b8)
        have o78 := hideIt (own_up o7.out b8)
        have HL9 := hideIt (HG20.out w8 G8)
        clear HW19 r0 r1 r2 r3 o6 o7 b7 b8
        go_wp2_with (go_at_call 12; refine HL9.out.mono ?_; rintro e w9 ⟨a9, c9, rfl, o9, G9, b9⟩; refine Hid.out ?_)
        refine (show ∀ {p : Prop}, p → Hid p from fun h => h) ?_
        have HS9 := hideIt (HSmI.out w9 a6 c6 a9 c9 (own_up o68.out b9) o9.out.1)
        have o79 := hideIt (own_up o78.out b9)
        obtain ⟨_, ⟨y1, y2⟩, _, _⟩ := HC.out _ G9
        have y3 := HK1.out _ G9
        clear HL9 q0 q1 q2 q3 o68 o78 b9 o9
        go_wp2_with (go_at_call 14; refine HS9.out.mono ?_; rintro e w10 ⟨rfl, b10⟩; refine Hid.out ?_)
        refine (show ∀ {p : Prop}, p → Hid p from fun h => h) ?_
        have G10 := Good.up G9 b10
        have HS10 := hideIt (HSmE.out w10 G10 a7 c7 (own_up o79.out b10))
        obtain ⟨_, ⟨x1, x2⟩, _, _⟩ := HC.out _ G10
        have x3 := HK1.out _ G10
        clear HS9 y1 y2 y3 o79 b10
        go_wp2_with (go_at_call 15; refine HS10.out.mono ?_; rintro e w11 ⟨rfl, b11⟩; refine Hid.out ?_)
        refine (show ∀ {p : Prop}, p → Hid p from fun h => h) ?_
        have G11 := Good.up G10 b11
        obtain ⟨_, ⟨v1, v2⟩, _, _⟩ := HC.out _ G11
        have d9 : (((ma : Int) == 0) == ((ma : Int) == 0)) = true := by simp
        clear HS10 x1 x2 x3 b11
        go_wp2
        go_ret
        exact ⟨rfl, HBl.out _ G11⟩
end Go.Proofs.Ytcmjfnaenkdidaa
namespace Go.Proofs.Ytcmjfnaenkdidaa
open Go.ChangeShapes Go.WideShapes Go.ChangeAt Go.RowKit

/-- a slice of bytes that came in, as the walk wants it -/
theorem code_of {H : Type} {enc : TypeId × Value → H} {W : World} {a : Option Addr} {len cap fuel : Nat} {x : DataW H × List MemPlace}
    (hf : DataW.trod enc Try.prog W 0 (fun _ => true) true fuel 22 [.slice a len cap] = some x) : Code W W.heap.size a len := by
  rcases open_ints Try.underlying22 Try.underlying5 (by kernel_rfl) hf with ⟨hcs, _⟩ | ⟨x, l, c, zs, hcs, _, hl, hm, hz, _, hcell, hwz⟩
  · simp at hcs
    obtain ⟨rfl, rfl, rfl⟩ := hcs
    exact .inl rfl
  · simp at hcs
    obtain ⟨rfl, rfl, rfl⟩ := hcs
    by_cases h0 : len = 0
    · exact .inl h0
    · have hzl : zs.length = cap := by simpa using hz
      obtain ⟨b, off, rfl, hc⟩ := ints_at hcell (by omega)
      have hb : b < W.heap.size := World.block_lt_of_cell? W _ (hc 0 (by omega))
      refine .inr ⟨b, off, rfl, hb, by omega, fun j hj => ?_⟩
      have hw := hwz (zs.getD j 0) (by
        rw [List.getD_eq_getElem?_getD, List.getElem?_eq_getElem (by omega)]
        exact List.getElem_mem _)
      have hr : 0 ≤ zs.getD j 0 ∧ zs.getD j 0 ≤ 255 := by simpa [Lit.wf, IntKind.min, IntKind.max, IntKind.signed, IntKind.bits] using hw
      refine ⟨(zs.getD j 0).toNat, by omega, ?_⟩
      rw [hc j (by omega), Int.toNat_of_nonneg hr.1]

end Go.Proofs.Ytcmjfnaenkdidaa
