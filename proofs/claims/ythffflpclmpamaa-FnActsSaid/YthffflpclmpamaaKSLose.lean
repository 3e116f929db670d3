/- Where a law stands that looks at fresh memory: disks in ranges of blocks of their own. What the specification's DoActs answers. Where the law of acts stands. The specification's DoActs where the disk's list may be none. What the power leaves: pure. What the specification's LoseDisk answers. -/
import Derived.Test.YthffflpclmpamaaKOrder
import Derived.Test.YthffflpclmpamaaKMarks3
import Derived.Test.YthffflpclmpamaaKPq16
import Derived.Deep.DeepCutAuto
import Derived.Maps.AppendAt
import Derived.Laws.AppendOwnNone
import Derived.Deep.AppendLies
import Derived.Test.YthffflpclmpamaaKSAct2
import Derived.Test.YthffflpclmpamaaKSFiles
import Derived.Test.YthffflpclmpamaaKFigs
import Derived.Deep.RegionLaw
namespace Go.Proofs.Ythffflpclmpamaa
open Go.RowKit

/-- a disk that is ours: its box and its files lie in blocks lo .. hi -/
structure DBox (u : World) (lo hi b : Nat) (a : Option Addr) (m c : Nat) (gs : List FileV) : Prop where
  box : Box u b 26 (.slice a m c)
  own : u.ownsRow lo 49 3 (.slice a m c) m (fcells gs)
  least : lo ≤ b
  most : b < hi
  row : ∀ g, (Value.slice a m c).ownBlock = some g → g < hi
  there : hi ≤ u.heap.size

/-- what lies outside lo .. hi has not turned -/
structure Rng (lo hi : Nat) (u v : World) : Prop where
  os : v.os = u.os
  tape : v.tape = u.tape
  output : v.output = u.output
  size : u.heap.size ≤ v.heap.size
  block : ∀ k, k < u.heap.size → (k < lo ∨ hi ≤ k) → v.heap[k]? = u.heap[k]?

theorem Rng.of_below {u v : World} {lo hi : Nat} (h : Below u.heap.size u v) : Rng lo hi u v := ⟨h.os, h.tape, h.output, h.size, fun k hk _ => h.block k hk⟩
theorem Rng.of_grown {u v : World} {lo hi g : Nat} (h : u.grownBy v (some g)) (h1 : lo ≤ g) (h2 : g < hi) : Rng lo hi u v :=
  ⟨h.os, h.tape, h.output, h.size, fun k hk ho => h.block k hk (by simp; omega)⟩
theorem Rng.below {u v : World} {lo hi B : Nat} (h : Rng lo hi u v) (h1 : B ≤ lo) (h2 : B ≤ u.heap.size) : Below B u v := ⟨h.os, h.tape, h.output, h.size, fun k hk => h.block k (by omega) (.inl (by omega))⟩

theorem DBox.len {u : World} {lo hi b : Nat} {a : Option Addr} {m c : Nat} {gs : List FileV} (h : DBox u lo hi b a m c gs) : gs.length = m := by
  have := h.own.1; rw [fcells_length] at this; omega
theorem DBox.fs {u : World} {lo hi b : Nat} {a : Option Addr} {m c : Nat} {gs : List FileV} (h : DBox u lo hi b a m c gs) : Fs u u.heap.size a m gs := Fs_of_ownv h.own
theorem DBox.rng {u v : World} {lo hi b l2 h2 : Nat} {a : Option Addr} {m c : Nat} {gs : List FileV} (h : DBox u lo hi b a m c gs) (hr : Rng l2 h2 u v) (ho : hi ≤ l2 ∨ h2 ≤ lo) : DBox v lo hi b a m c gs := by
  have hth := h.there
  have hb := h.least
  have hb' := h.most
  have g1 : ∀ k, lo ≤ k → k < hi → v.heap[k]? = u.heap[k]? := fun k h3 h4 => hr.block k (by omega) (by omega)
  refine ⟨?_, ?_, hb, hb', h.row, Nat.le_trans hth hr.size⟩
  · unfold Box; rw [g1 b hb hb']; exact h.box
  · refine ⟨h.own.1, ?_⟩
    rcases h.own.2 with h3 | ⟨g, cap, cur, hv, hg, hcur, hrest⟩
    · exact .inl h3
    · refine .inr ⟨g, cap, cur, hv, hg, ?_, hrest⟩
      rw [g1 g hg (h.row g (by rw [hv]; rfl))]
      exact hcur
theorem DBox.up {u v : World} {lo hi b : Nat} {a : Option Addr} {m c : Nat} {gs : List FileV} (h : DBox u lo hi b a m c gs) (hb : Below u.heap.size u v) : DBox v lo hi b a m c gs :=
  h.rng (l2 := hi) (h2 := hi) (Rng.of_below hb) (.inl (Nat.le_refl _))
theorem DBox.cell {u : World} {lo hi b : Nat} {a : Option Addr} {m c : Nat} {gs : List FileV} (h : DBox u lo hi b a m c gs) : u.cell? ⟨b, 0, none⟩ = some (.slice a m c) := h.box.cell

/-- a disk that a call has made is laid into a box: the box came ahead of the call -/
theorem DBox.stored {u : World} {lo b : Nat} {a : Option Addr} {m c : Nat} {gs : List FileV} {v0 : Value} (hb : Box u b 26 v0) (hl : lo ≤ b) (ho : u.ownsRow lo 49 3 (.slice a m c) m (fcells gs)) :
    DBox (u.setCell ⟨b, 0, none⟩ (.slice a m c)) lo (u.setCell ⟨b, 0, none⟩ (.slice a m c)).heap.size b a m c gs := by
  have hne : (Value.slice a m c).ownBlock ≠ some b := fun e => by
    rcases ho.2 with ⟨h3, _⟩ | ⟨g, cap, cur, hv, hg, hcur, hrest⟩
    · simp at h3
      obtain ⟨rfl, _⟩ := h3
      cases e
    · simp at hv
      obtain ⟨rfl, rfl⟩ := hv
      have e' : some g = some b := e
      simp at e'
      rw [e'] at hcur
      have hbx : u.heap[b]? = some (.cells #[v0] 26 (0, 0)) := hb
      rw [hbx] at hcur
      simp at hcur
  have ho' : (u.setCell ⟨b, 0, none⟩ (.slice a m c)).ownsRow lo 49 3 (.slice a m c) m (fcells gs) := World.ownsRow.kept ho (grownSet u b 0 _) (.inr hne)
  have hb' := hb.set (.slice a m c)
  exact ⟨hb', ho', hl, hb'.lt, fun g hg => (ho'.lt g hg).2, Nat.le_refl _⟩
/-- .. or comes behind it -/
theorem DBox.laid {u : World} {lo : Nat} {a : Option Addr} {m c : Nat} {gs : List FileV} (hl : lo ≤ u.heap.size) (ho : u.ownsRow lo 49 3 (.slice a m c) m (fcells gs)) :
    DBox (u.alloc (.cells #[.slice a m c] 26)) lo (u.alloc (.cells #[.slice a m c] 26)).heap.size u.heap.size a m c gs :=
  ⟨Box.new _ _ _ _ rfl, ho.alloc _, hl, by simp, fun g hg => by have := (ho.lt g hg).2; simp; omega, Nat.le_refl _⟩

theorem Good.refl (w : World) : Good w w := Below.refl _ _
theorem Good.size {w u : World} (h : Good w u) : w.heap.size ≤ u.heap.size := Below.size h
theorem Good.up {w u v : World} (h : Good w u) (hb : Below u.heap.size u v) : Good w v := Below.trans h (hb.mono h.size)
theorem Good.alloc {w u : World} (h : Good w u) (o : Obj) : Good w (u.alloc o) := h.up ((Below.refl _ _).alloc (Nat.le_refl _) _)
theorem Good.set {w u : World} (h : Good w u) (b j : Nat) (v : Value) (hb : w.heap.size ≤ b) : Good w (u.setCell ⟨b, j, none⟩ v) := Below.setCell h (p := ⟨b, j, none⟩) hb v
theorem Good.drew {w u : World} (h : Good w u) : Good w u.drew := Below.drew h
theorem Good.rng {w u v : World} {lo hi : Nat} (h : Good w u) (hr : Rng lo hi u v) (hl : w.heap.size ≤ lo) : Good w v := Below.trans h (hr.below hl h.size)

/-- any box stands behind a call -/
def Keep (u v : World) : Prop := ∀ b t x, Box u b t x → Box v b t x
theorem Keep.of {u v : World} (h : Below u.heap.size u v) : Keep u v := fun _ _ _ hb => hb.below h hb.lt
theorem Keep.nil {u v : World} (h : Keep u v) {b : Nat} (hb : Box u b 26 (.slice none 0 0)) : Box v b 26 (.slice none 0 0) := h _ _ _ hb
theorem own_up {w w' : World} {B e s n : Nat} {v : Value} {xs : List Value} (h : w.ownsRow B e s v n xs) (hb : Below w.heap.size w w') : w'.ownsRow B e s v n xs :=
  World.ownsRow.kept h (grown_of_below hb none) (by cases hv : v.ownBlock <;> simp)
/-- the answer in one form -/
theorem act_ans {w : World} {o : Option (List FileV)} {e : Ending} {w' : World} (h : ActAns w o e w') : ∃ a m c, e = .returned (.tuple #[.agg #[.slice a m c], .bool o.isSome]) ∧ w'.ownsRow w.heap.size 49 3 (.slice a m c) m (fcells (o.getD [])) ∧ Below w.heap.size w w' := by
  cases o with
  | none => exact ⟨none, 0, 0, h.1, World.ownsRow_nil _ _ _ _, h.2⟩
  | some gs => exact h

end Go.Proofs.Ythffflpclmpamaa
namespace Go.Proofs.Ythffflpclmpamaa
open Go.RowKit

theorem disk_letters {gs : List FileV} (h : DiskR gs) : gs.length + letters gs ≤ 1048576 := by
  have h1 := ((disk_iff gs).1 h).2.1
  have h30 := h.1
  have : ∀ l : List FileV, (∀ f ∈ l, FileOk f) → letters l ≤ l.length * 20008 := by
    intro l
    induction l with
    | nil => intro _; simp [letters]
    | cons f fs ih =>
      intro hf
      have h2 := ih fun g hg => hf g (List.mem_cons_of_mem _ hg)
      obtain ⟨⟨_, h3⟩, h4, _⟩ := hf f (List.mem_cons_self ..)
      simp only [letters, List.map_cons, List.sum_cons, List.length_cons] at h2 ⊢
      omega
  have h2 := this gs h1
  have h3 : gs.length * 20008 ≤ 30 * 20008 := Nat.mul_le_mul_right _ h30
  omega

theorem add_at (b off j : Nat) : ((⟨b, off, none⟩ : Addr).add j) = ⟨b, off + j, none⟩ := by
  by_cases h0 : j = 0
  · subst h0; rfl
  · simp [Addr.add, h0]
theorem fs_news {w : World} {b off : Nat} {fs : List FileV} (hc : ∀ (j : Nat) (f : FileV), fs[j]? = some f → w.cell? ⟨b, off + j * 3, none⟩ = some (.string f.name) ∧ w.cell? ⟨b, off + j * 3 + 1, none⟩ = some (.string f.text) ∧ w.cell? ⟨b, off + j * 3 + 2, none⟩ = some (.int .i64 f.kept)) :
    ∀ j u, (fcells fs)[j]? = some u → w.cell? ((⟨b, off, none⟩ : Addr).add j) = some u := by
  intro j u hu
  rw [add_at]
  have hj := (List.getElem?_eq_some_iff.1 hu).1
  rw [fcells_length] at hj
  obtain ⟨q, hq⟩ : ∃ q, q = j / 3 := ⟨_, rfl⟩
  have hq1 : q < fs.length := by omega
  have hf : fs[q]? = some fs[q] := List.getElem?_eq_getElem hq1
  obtain ⟨f0, f1, f2⟩ := fcells_at fs q _ hf
  obtain ⟨c0, c1, c2⟩ := hc q _ hf
  rcases (show j = q * 3 ∨ j = q * 3 + 1 ∨ j = q * 3 + 2 by omega) with e | e | e
  · subst e; rw [hu] at f0; rw [c0, f0]
  · rw [e] at hu ⊢; rw [hu] at f1; rw [← Nat.add_assoc, c1, f1]
  · rw [e] at hu ⊢; rw [hu] at f2; rw [← Nat.add_assoc, c2, f2]
theorem fcells_one (fs : List FileV) : ∀ u ∈ fcells fs, u.oneCell' = true := by
  intro u hu
  simp only [fcells, List.mem_flatMap, fcell] at hu
  obtain ⟨f, _, hf⟩ := hu
  simp at hf
  rcases hf with rfl | rfl | rfl <;> rfl

/-- what DoActs answers -/
def ActsAnsS (w : World) (P : List FileV × Nat) (e : Ending) (w' : World) : Prop :=
  ∃ a m c, e = .returned (.tuple #[.agg #[.slice a m c], .int .i64 (P.2 : Int)]) ∧ w'.ownsRow w.heap.size 49 3 (.slice a m c) m (fcells P.1) ∧ Below w.heap.size w w'

set_option maxRecDepth 100000 in
set_option maxHeartbeats 8000000 in
theorem sDoActs_any (fs : List FileV) (hlet : fs.length + letters fs ≤ 1048576) (n : Nat) (b0 o0 : Nat) (c : Nat) (xs : List ActV) (hx : FitsA xs) (na : Nat) (aa : Option Addr) (ca : Nat) (hna : na ≤ 1048576) (w : World) (h : Fs w w.heap.size (some ⟨b0, o0, none⟩) n fs) (ha : As w w.heap.size aa na xs) :
    Calls Try.prog 7 #[.agg #[.slice (some ⟨b0, o0, none⟩) n c], .slice aa na ca] w (ActsAnsS w (runActs fs xs)) := by
  obtain ⟨i0, hi, hz0, hz1, hz2⟩ := info_parts infoIF
  have hn1 : n ≤ 1048576 := by have := h.1; omega
  obtain ⟨hlen, hrow⟩ := h
  obtain ⟨hlena, hrowa⟩ := ha
  have HA := hideIt hrowa
  have HX := hideIt hx
  have HLt := hideIt hlet
  have hnews : ∀ (w' : World), Below w.heap.size w w' → ∀ j u, (fcells fs)[j]? = some u → w'.cell? ((⟨b0, o0, none⟩ : Addr).add j) = some u := fun w' hb j u hu => by
    rcases hrow with hz | ⟨b, off, he, hbl, hc⟩
    · have : fs = [] := List.length_eq_zero_iff.1 (by omega)
      subst this
      simp [fcells] at hu
    · cases he
      have := fs_news hc j u hu
      rw [add_at] at this ⊢
      rw [hb.cell (p := ⟨b0, _, none⟩) hbl]
      exact this
  have HN := hideIt hnews
  clear hrow hrowa hx hlet hnews
  unfold ActsAnsS
  generalize hP : runActs fs xs = P
  have HP := hideIt hP
  clear hP
  have KK : Below w.heap.size w (((w.alloc (.cells #[.slice (some ⟨b0, o0, none⟩) n c] 26)).alloc (.cells #[.slice none 0 0] 26)).alloc (.cells #[] 49)) := (((Below.refl _ _).alloc (Nat.le_refl _) _).alloc (by simp) _).alloc (by simp; omega) _
  have own0 := World.ownsRow_made (base := w.heap.size + 2) (e := 49) (size := 3) ((w.alloc (.cells #[.slice (some ⟨b0, o0, none⟩) n c] 26)).alloc (.cells #[.slice none 0 0] 26)) #[] 0 (by simp) (by unfold maxLen; omega) rfl
  rw [show ((w.alloc (.cells #[.slice (some ⟨b0, o0, none⟩) n c] 26)).alloc (.cells #[.slice none 0 0] 26)).heap.size = w.heap.size + 1 + 1 by simp] at own0
  have HO0 := hideIt own0
  clear own0
  have hfl : (fcells fs).length = n * 3 := by rw [fcells_length, hlen]
  go_enter Try.func7, Try.ntmps7
  go_wp2_with (at_builtin; refine wpList_append_own_at _ rfl _ _ 24 rfl (w.heap.size + 2) 49 i0 _ 3 40 Try.underlying24 hi hz0 hz1 hz2 rfl (by decide) _ _ _ rfl HO0.out ⟨b0, o0, none⟩ n c (fcells fs) rfl hfl (HN.out _ KK) (fcells_one fs) (by unfold maxLen; omega) (by omega) (by simp <;> omega) ?_; intro v1 w1 hown1 hg1 hnil1 hloc1; refine Hid.out ?_)
  refine (show ∀ {p : Prop}, p → Hid p from fun h => h) ?_
  have hg2 : (((w.alloc (.cells #[.slice (some ⟨b0, o0, none⟩) n c] 26)).alloc (.cells #[.slice none 0 0] 26)).alloc (.cells #[] 49)).grownBy w1 (some (w.heap.size + 1 + 1)) := hg1
  have hown2 : w1.ownsRow (w.heap.size + 2) 49 3 v1 n (fcells fs) := by simpa using hown1
  obtain ⟨g1, cap1, rfl, lg1⟩ : ∃ g1 cap1, v1 = .slice (some ⟨g1, 0, none⟩) n cap1 ∧ w.heap.size + 2 ≤ g1 := by
    rcases hown2.2 with ⟨hv, _⟩ | ⟨g, cap, cur, hv, hg, _⟩
    · have h5 : v1 = .slice none 0 0 ↔ (Value.slice (some ⟨w.heap.size + 1 + 1, 0, none⟩) 0 0 = .slice none 0 0 ∧ n = 0) := hnil1
      have := (h5.1 hv).1
      simp at this
    · exact ⟨g, cap, hv, hg⟩
  have hz1' := hg2.size
  simp at hz1'
  have y1 : Box w1 (w.heap.size + 1) 26 (.slice none 0 0) := by
    refine Box.grown ?_ hg2 (by simp)
    exact (Box.new (w.alloc (.cells #[.slice (some ⟨b0, o0, none⟩) n c] 26)) 26 (.slice none 0 0) (w.heap.size + 1) (by simp)).alloc _
  have K1 : Below w.heap.size w w1 := KK.grown hg2 (by simp; omega) (fun j hj => by simp at hj; omega)
  have l1 := (hown2.lt g1 rfl).2
  have HO1 := hideIt hown2
  clear hg1 hnil1 hloc1 hown1 hg2 KK HO0 HN hown2
  go_wp2
  go_loopw [7] (fun i wr => ∃ (k : Nat) (gs : List FileV) (a' : Option Addr) (m c' : Nat), k ≤ na ∧ i = .int .i64 (k : Int) ∧ Hid (Ran fs xs k gs ∧ gs.length + letters gs ≤ 1048576) ∧ Box wr (w.heap.size + 1) 26 (.slice none 0 0) ∧ Box wr w1.heap.size 26 (.slice a' m c') ∧
      Hid (wr.ownsRow (w.heap.size + 2) 49 3 (.slice a' m c') m (fcells gs)) ∧ Below w.heap.size w wr) (fun i _ => na - (intOf i).toNat)
  case atStart => exact ⟨0, fs, _, n, cap1, by omega, rfl, ⟨Ran.start _ _, HLt.out⟩, y1.alloc _, Box.new _ _ _ _ rfl, HO1.out.alloc _, K1.alloc (by omega) _⟩
  case round =>
    obtain ⟨k, gs, a', m, c', hk, rfl, hI, x1, x2, hown, hb⟩ := hrel
    have e1 := x2.cell
    have f1 := x2.frozen
    have l2 := x2.lt
    have zb := hb.size
    by_cases hlt : k < na
    · rcases HA.out with hz | ⟨b, off, rfl, hbl, hc⟩
      · omega
      · obtain ⟨x, hf⟩ : ∃ f, xs[k]? = some f := ⟨xs[k]'(by omega), List.getElem?_eq_getElem (by omega)⟩
        obtain ⟨c0, c1, c2, c3⟩ := hc k x hf
        have HC : Hid (∀ u, Good wr u → (u.cell? ⟨w1.heap.size, 0, none⟩ = some (.slice a' m c') ∧ u.cell? ⟨b, off + k * 4, none⟩ = some (.int .i64 x.kind) ∧ u.cell? ⟨b, off + k * 4 + 1, none⟩ = some (.string x.name) ∧ u.cell? ⟨b, off + k * 4 + 2, none⟩ = some (.string x.text) ∧ u.cell? ⟨b, off + k * 4 + 3, none⟩ = some (.string x.to)) ∧ Good wr u) := fun u hu => by
          have hbu : Below w.heap.size w u := hb.trans (Below.mono hu (by omega))
          exact ⟨⟨(x2.below hu l2).cell, by rw [hbu.cell hbl]; exact c0, by rw [hbu.cell hbl]; exact c1, by rw [hbu.cell hbl]; exact c2, by rw [hbu.cell hbl]; exact c3⟩, hu⟩
        have hS0 := HC.out _ (Good.refl wr).drew
        have b1 : (0 : Int) ≤ (k : Int) := by omega
        have b2 : (k : Int) < (na : Int) := by omega
        obtain ⟨hran, hlg⟩ := hI.out
        have HD := hideIt (fun u (hu : Good wr u) => (sDoAct_any gs hlg m a' c' x (HX.out x (List.mem_of_getElem? hf)) u (Fs_of_ownv (own_up hown.out hu))).mono fun _ v hA => (show ∃ a2 m2 c2, _ ∧ v.ownsRow wr.heap.size 49 3 (.slice a2 m2 c2) m2 (fcells ((doAct gs x).getD [])) ∧ Good wr v ∧ Keep u v by
          obtain ⟨a2, m2, c2, he, hw, hbb⟩ := act_ans hA
          exact ⟨a2, m2, c2, he, own_mono hw hu.size, hu.up hbb, Keep.of hbb⟩))
        have HHf := hideIt hf
        have HRn := hideIt hran
        clear hc c0 c1 c2 c3 hI hran hlg hf
        have zz : w1.heap.size < wr.heap.size := l2
        go_upto_region 5 with fail
        go_cut [8, 9] (fun p ok wx => ∃ bN a2 m2 c2, p = .pointer (some ⟨bN, 0, none⟩) ∧ ok = .bool (doAct gs x).isSome ∧ Good wr wx ∧ DBox wx wr.heap.size wx.heap.size bN a2 m2 c2 ((doAct gs x).getD []))
        case first =>
          generalize (doAct gs x).isSome = fl at *
          generalize (doAct gs x).getD [] = hs at *
          go_region_held3 (fun u => (u.cell? ⟨w1.heap.size, 0, none⟩ = some (.slice a' m c') ∧ u.cell? ⟨b, off + k * 4, none⟩ = some (.int .i64 x.kind) ∧ u.cell? ⟨b, off + k * 4 + 1, none⟩ = some (.string x.name) ∧ u.cell? ⟨b, off + k * 4 + 2, none⟩ = some (.string x.text) ∧ u.cell? ⟨b, off + k * 4 + 3, none⟩ = some (.string x.to)) ∧ Good wr u)
            (first | assumption | exact HC.out _ (Good.alloc (And.right (by assumption)) _) | exact HC.out _ (Good.set (And.right (by assumption)) _ _ _ (by omega)))
            ((go_at_call 23; refine (HD.out _ (And.right (by assumption))).mono ?_; rintro e w5 ⟨a2, m2, c2, rfl, ho5, hg5, hk5⟩; have hS5 := HC.out _ hg5; have z5 := hg5.size; (first | have bx := hk5.nil (Box.new wr _ _ _ rfl) | skip); try (have bc := bx.cell; have bz := bx.frozen)))
          all_goals
            go_wp2_with fail
            go_meet
            first
              | exact ⟨_, a2, m2, c2, rfl, rfl, Good.set hg5 _ _ _ (by omega), DBox.stored bx (by omega) ho5⟩
              | exact ⟨_, a2, m2, c2, rfl, rfl, Good.alloc hg5 _, DBox.laid (by omega) ho5⟩
        case rest =>
          obtain ⟨bN, a2, m2, c2, rfl, rfl, G, DN⟩ := hcut
          have y1c := x1.below G x1.lt
          have y2c := x2.below G l2
          have Kc : Below w.heap.size w wc := hb.trans (Below.mono G (by omega))
          have ownc := own_up hown.out G
          have zc := G.size
          clear HC hS0 HD
          cases ho : doAct gs x with
          | none =>
            have HE : Hid (P = (gs, k)) := by show P = (gs, k); rw [← HP.out]; exact HRn.out.stop HHf.out ho
            have r0 := y1c.cell
            have r1 := y1c.frozen
            have r2 := y2c.cell
            have s1 := (y1c.set (.slice a' m c')).cell
            have HO2 := hideIt (own_setLow ownc (w.heap.size + 1) 0 (.slice a' m c') (by omega))
            have q3 := Kc.setCell (p := ⟨w.heap.size + 1, 0, none⟩) (by show _ ≤ w.heap.size + 1; omega) (.slice a' m c')
            clear hown DN ownc
            go_wp2
            exact bodyPost_ret (v := .tuple #[.agg #[.slice a' m c'], .int .i64 (k : Int)]) (by simp [results, Try.results7, go_sem, s1]) rfl (by rw [HE.out]; exact ⟨a', m, c', rfl, own_mono HO2.out (by omega), q3⟩)
          | some hs =>
            rw [ho] at DN
            have HE : Hid (Ran fs xs (k + 1) hs ∧ hs.length + letters hs ≤ 1048576) := ⟨HRn.out.step HHf.out ho, disk_letters (doAct_disk ho)⟩
            have r2 := y2c.cell
            have r3 := y2c.frozen
            have r4 := DN.cell
            have DN2 : DBox wc wr.heap.size wc.heap.size bN a2 m2 c2 hs := DN
            have z1 := y1c.setOther (j := 0) (.slice a2 m2 c2) (show w.heap.size + 1 ≠ w1.heap.size by omega)
            have z2 := y2c.set (.slice a2 m2 c2)
            have HO2 := hideIt (own_mono (own_setLow DN2.own w1.heap.size 0 (.slice a2 m2 c2) (by omega)) (show w.heap.size + 2 ≤ _ by omega))
            have q3 := Kc.setCell (p := ⟨w1.heap.size, 0, none⟩) (by show _ ≤ w1.heap.size; omega) (.slice a2 m2 c2)
            clear hown DN ownc DN2
            go_wp2
            go_roundw
            case rel => exact ⟨k + 1, hs, a2, m2, c2, by omega, by go_num, HE.out, z1, z2, HO2.out, q3⟩
            case measure => simp [intOf]; omega
    · obtain rfl : k = na := by omega
      have HE : Hid (P = (gs, k)) := by
        show P = (gs, k)
        have := hI.out.1
        subst hlena
        rw [← HP.out]
        exact this.done
      have r0 := x1.cell
      have r1 := x1.frozen
      have s1 := (x1.set (.slice a' m c')).cell
      have HO2 := hideIt (own_setLow hown.out (w.heap.size + 1) 0 (.slice a' m c') (by omega))
      have q3 := hb.setCell (p := ⟨w.heap.size + 1, 0, none⟩) (by show _ ≤ w.heap.size + 1; omega) (.slice a' m c')
      clear hown hI
      go_wp2
      exact bodyPost_ret (v := .tuple #[.agg #[.slice a' m c'], .int .i64 (k : Int)]) (by simp [results, Try.results7, go_sem, s1]) rfl (by rw [HE.out]; exact ⟨a', m, c', rfl, own_mono HO2.out (by omega), q3⟩)
end Go.Proofs.Ythffflpclmpamaa
namespace Go.Proofs.Ythffflpclmpamaa
open Go.RowKit

/-- what was drawn stands -/
structure FAc (w : World) (X : Nat) (fs : List FileV) (ad : Option Addr) (n cd : Nat) (xs : List ActV) (ga na : Nat) (ls : List Int) (gl nl : Nat) (u : World) : Prop where
  box : Box u X 26 (.slice ad n cd)
  f : Fs u u.heap.size ad n fs
  x : As u u.heap.size (some ⟨ga, 0, none⟩) na xs
  l : Is u u.heap.size (some ⟨gl, 0, none⟩) nl ls
  b : Below w.heap.size w u
section
variable {w u v : World} {X : Nat} {fs : List FileV} {ad : Option Addr} {n cd : Nat} {xs : List ActV} {ga na : Nat} {ls : List Int} {gl nl : Nat}
theorem FAc.up (h : FAc w X fs ad n cd xs ga na ls gl nl u) (hb : Below u.heap.size u v) : FAc w X fs ad n cd xs ga na ls gl nl v :=
  ⟨h.box.below hb h.box.lt, h.f.up hb, h.x.up hb, h.l.up hb, h.b.trans (hb.mono h.b.size)⟩
theorem FAc.alloc (h : FAc w X fs ad n cd xs ga na ls gl nl u) (o : Obj) : FAc w X fs ad n cd xs ga na ls gl nl (u.alloc o) := h.up ((Below.refl _ _).alloc (Nat.le_refl _) o)
theorem FAc.act (h : FAc w X fs ad n cd xs ga na ls gl nl u) {k : Nat} {x : ActV} (hx : xs[k]? = some x) :
    u.cell? ⟨ga, k * 4, none⟩ = some (.int .i64 x.kind) ∧ u.cell? ⟨ga, k * 4 + 1, none⟩ = some (.string x.name) ∧ u.cell? ⟨ga, k * 4 + 2, none⟩ = some (.string x.text) ∧ u.cell? ⟨ga, k * 4 + 3, none⟩ = some (.string x.to) := by
  rcases h.x.2 with h0 | ⟨b, off, hb, _, hc⟩
  · have := h.x.1
    have := (List.getElem?_eq_some_iff.1 hx).1
    omega
  · simp only [Option.some.injEq, Addr.mk.injEq] at hb
    obtain ⟨rfl, rfl, _⟩ := hb
    have := hc k x hx
    simpa only [Nat.zero_add] using this
end
/-- a disk in a box -/
structure DkA (u : World) (b : Nat) (a : Option Addr) (m c : Nat) (gs : List FileV) : Prop where
  box : Box u b 26 (.slice a m c)
  fs : Fs u u.heap.size a m gs
section
variable {u v : World} {b : Nat} {a : Option Addr} {m c : Nat} {gs : List FileV}
theorem DkA.up (h : DkA u b a m c gs) (hb : Below u.heap.size u v) : DkA v b a m c gs := ⟨h.box.below hb h.box.lt, h.fs.up hb⟩
theorem DkA.laid {B : Nat} (h : u.ownsRow B 49 3 (.slice a m c) m (fcells gs)) : DkA (u.alloc (.cells #[.slice a m c] 26)) u.heap.size a m c gs :=
  ⟨Box.new _ _ _ _ rfl, (Fs_of_ownv h).up ((Below.refl _ _).alloc (Nat.le_refl _) _)⟩
theorem DkA.len (h : DkA u b a m c gs) : gs.length = m := h.fs.1
end
/-- the disk that goes on: its box is turned each round -/
structure OnA (u : World) (b : Nat) (a : Option Addr) (m c : Nat) (gs : List FileV) : Prop where
  box : Box u b 26 (.slice a m c)
  fs : Fs u u.heap.size a m gs
  ne : ∀ p, a = some p → p.block ≠ b
section
variable {u v : World} {b : Nat} {a a2 : Option Addr} {m c m2 c2 : Nat} {gs hs : List FileV}
theorem OnA.up (h : OnA u b a m c gs) (hb : Below u.heap.size u v) : OnA v b a m c gs := ⟨h.box.below hb h.box.lt, h.fs.up hb, h.ne⟩
theorem fs_set {n : Nat} {fs : List FileV} (h : Fs u u.heap.size a n fs) (b j : Nat) (x : Value) (hne : ∀ p, a = some p → p.block ≠ b) : Fs (u.setCell ⟨b, j, none⟩ x) (u.setCell ⟨b, j, none⟩ x).heap.size a n fs := by
  have hg := grownSet u b j x
  refine ⟨h.1, h.2.imp id ?_⟩
  rintro ⟨b1, off, h1, h2, h3⟩
  have hn : b1 ≠ b := hne _ h1
  refine ⟨b1, off, h1, by have := hg.size; omega, fun k f hf => ?_⟩
  have e : ∀ o, (u.setCell ⟨b, j, none⟩ x).cell? ⟨b1, o, none⟩ = u.cell? ⟨b1, o, none⟩ := fun o => World.cell?_of_block (w := u) (hg.block b1 h2 (by simpa using hn))
  rw [e, e, e]
  exact h3 k f hf
theorem OnA.store {t0 : Value} (hb : Box u b 26 t0) (h : Fs u u.heap.size a m gs) (hne : ∀ p, a = some p → p.block ≠ b) : OnA (u.setCell ⟨b, 0, none⟩ (.slice a m c)) b a m c gs :=
  ⟨hb.set _, fs_set h b 0 _ hne, hne⟩
end
theorem own_ne {u : World} {B b : Nat} {a : Option Addr} {m c : Nat} {xs : List Value} {e s : Nat} (h : u.ownsRow B e s (.slice a m c) m xs) (hb : b < B) : ∀ p, a = some p → p.block ≠ b := by
  intro p hp
  subst hp
  rcases h.2 with ⟨hv, _⟩ | ⟨g, cap, cur, hv, hg, _⟩
  · simp at hv
  · simp only [Value.slice.injEq, Option.some.injEq] at hv
    obtain ⟨rfl, _⟩ := hv
    show g ≠ b
    omega
theorem fs_nil_of {u : World} {B : Nat} {a : Option Addr} {m c : Nat} {xs : List Value} {e s : Nat} (h : u.ownsRow B e s (.slice a m c) m xs) : a = none → m = 0 ∧ c = 0 := by
  intro ha
  subst ha
  rcases h.2 with ⟨hv, _⟩ | ⟨g, cap, cur, hv, hg, _⟩
  · simp at hv; exact hv
  · simp at hv
theorem own_at {u : World} {B : Nat} {a : Option Addr} {m c : Nat} {xs : List Value} {e s : Nat} (h : u.ownsRow B e s (.slice a m c) m xs) : ∀ p, a = some p → p.block < u.heap.size := by
  intro p hp
  subst hp
  exact (h.lt p.block rfl).2
theorem own_cap {u : World} {B : Nat} {a : Option Addr} {m c : Nat} {xs : List Value} {e s : Nat} (h : u.ownsRow B e s (.slice a m c) m xs) : m ≤ c := by
  rcases h.2 with ⟨hv, h0⟩ | ⟨g, cap, cur, hv, hg, _, hc, _⟩
  · omega
  · simp only [Value.slice.injEq] at hv
    omega
theorem faV_eq (o : Option FileV) : faV o = .tuple #[.string (txO o), .bool o.isSome] := by cases o <;> rfl
theorem runs_len {fs : List FileV} (h : fs.length ≤ 32) (xs : List ActV) : (runActs fs xs).1.length ≤ 32 := by
  by_cases hd : DiskR fs
  · have := (run_disk xs fs hd).1; omega
  · rw [run_bad hd]; exact h
end Go.Proofs.Ythffflpclmpamaa
namespace Go.Proofs.Ythffflpclmpamaa
open Go.RowKit

theorem own_formQ {w : World} {B e s n : Nat} {v : Value} {xs : List Value} (h : w.ownsRow B e s v n xs) : ∃ a c, v = .slice a n c := by
  rcases h.2 with ⟨hv, h0⟩ | ⟨g, cap, cur, hv, _⟩
  · subst h0; exact ⟨none, 0, hv⟩
  · exact ⟨_, cap, hv⟩
theorem grown_reflQ (w : World) (x : Option Nat) : w.grownBy w x := ⟨rfl, rfl, rfl, Nat.le_refl _, fun _ _ _ => rfl⟩
theorem wpList_append_copy {P : Program} {w : World} {ops : Array Oper} {rest : List Oper} {o : Oper} {a : Act} {Q : Exit → Act → World → Prop} (hgd : o.guard = none) (s x : Operand) (t : TypeId)
    (ho : o.op = .call { callee := .builtin .append, args := #[s, x], argTypes := #[t, t] })
    (base : Nat) (e : TypeId) (i : TypeInfo) (z : Value) (size bytes : Nat) (ht : P.underlying t = some (.slice e)) (hi : P.info? e = some i) (hz : i.zero = some z)
    (hsize : i.size = size) (hby : i.bytes = bytes) (hzs : z.cells.size = size) (hsz : 0 < size)
    (v : Value) (hs : a.eval s = v) (hown : w.ownsRow base e size v 0 [])
    (ad : Option Addr) (m c : Nat) (news : List Value) (hx : a.eval x = .slice ad m c) (hl : news.length = m * size) (hnil : ad = none → m = 0 ∧ c = 0) (hnews : ∀ ad', ad = some ad' → ∀ j u, news[j]? = some u → w.cell? (ad'.add j) = some u) (h1 : ∀ u ∈ news, u.oneCell' = true)
    (h63 : m ≤ maxLen) (hbytes : m * bytes ≤ 140737488355328) (hbase : base ≤ w.heap.size)
    (h : ∀ a' cap w', w'.ownsRow base e size (.slice a' m cap) m news → w.grownBy w' v.ownBlock → wpList P ops Q rest (a.put o.dst (.slice a' m cap)) w') : wpList P ops Q (o :: rest) a w := by
  cases ad with
  | none =>
    obtain ⟨rfl, rfl⟩ := hnil rfl
    have e0 : news = [] := List.length_eq_zero_iff.1 (by omega)
    subst e0
    refine wpList_append_own_none hgd s x t ho base e i size ht hi v 0 [] hs hown hx ?_
    obtain ⟨a2, c2, rfl⟩ := own_formQ hown
    exact h a2 c2 w hown (grown_reflQ _ _)
  | some ad =>
    refine wpList_append_own w hgd s x t ho base e i z size bytes ht hi hz hsize hby hzs hsz v 0 [] hs hown ad m c news hx hl (hnews ad rfl) h1 (by omega) (by simpa using hbytes) hbase fun v' w' h2 h3 _ => ?_
    rw [Nat.zero_add, List.nil_append] at h2
    obtain ⟨a2, c2, rfl⟩ := own_formQ h2
    exact h a2 c2 w' h2 h3
set_option maxRecDepth 100000 in
set_option maxHeartbeats 8000000 in
theorem sDoActs_opt (fs : List FileV) (hlet : fs.length + letters fs ≤ 1048576) (n : Nat) (ad : Option Addr) (c : Nat) (hnil : ad = none → n = 0 ∧ c = 0) (xs : List ActV) (hx : FitsA xs) (na : Nat) (aa : Option Addr) (ca : Nat) (hna : na ≤ 1048576) (w : World) (h : Fs w w.heap.size (ad) n fs) (ha : As w w.heap.size aa na xs) :
    Calls Try.prog 7 #[.agg #[.slice (ad) n c], .slice aa na ca] w (ActsAnsS w (runActs fs xs)) := by
  obtain ⟨i0, hi, hz0, hz1, hz2⟩ := info_parts infoIF
  have hn1 : n ≤ 1048576 := by have := h.1; omega
  obtain ⟨hlen, hrow⟩ := h
  obtain ⟨hlena, hrowa⟩ := ha
  have HA := hideIt hrowa
  have HX := hideIt hx
  have HLt := hideIt hlet
  have hnews : ∀ (w' : World), Below w.heap.size w w' → ∀ ad', ad = some ad' → ∀ j u, (fcells fs)[j]? = some u → w'.cell? (ad'.add j) = some u := fun w' hb ad' hd j u hu => by
    rcases hrow with hz | ⟨b, off, he, hbl, hc⟩
    · have : fs = [] := List.length_eq_zero_iff.1 (by omega)
      subst this
      simp [fcells] at hu
    · rw [he] at hd
      cases hd
      have := fs_news hc j u hu
      rw [add_at] at this ⊢
      rw [hb.cell (p := ⟨b, _, none⟩) hbl]
      exact this
  have HN := hideIt hnews
  clear hrow hrowa hx hlet hnews
  unfold ActsAnsS
  generalize hP : runActs fs xs = P
  have HP := hideIt hP
  clear hP
  have KK : Below w.heap.size w (((w.alloc (.cells #[.slice (ad) n c] 26)).alloc (.cells #[.slice none 0 0] 26)).alloc (.cells #[] 49)) := (((Below.refl _ _).alloc (Nat.le_refl _) _).alloc (by simp) _).alloc (by simp; omega) _
  have own0 := World.ownsRow_made (base := w.heap.size + 2) (e := 49) (size := 3) ((w.alloc (.cells #[.slice (ad) n c] 26)).alloc (.cells #[.slice none 0 0] 26)) #[] 0 (by simp) (by unfold maxLen; omega) rfl
  rw [show ((w.alloc (.cells #[.slice (ad) n c] 26)).alloc (.cells #[.slice none 0 0] 26)).heap.size = w.heap.size + 1 + 1 by simp] at own0
  have HO0 := hideIt own0
  clear own0
  have hfl : (fcells fs).length = n * 3 := by rw [fcells_length, hlen]
  go_enter Try.func7, Try.ntmps7
  go_wp2_with (at_builtin; refine wpList_append_copy rfl _ _ 24 rfl (w.heap.size + 2) 49 i0 _ 3 40 Try.underlying24 hi hz0 hz1 hz2 rfl (by decide) _ rfl HO0.out ad n c (fcells fs) rfl hfl hnil (HN.out _ KK) (fcells_one fs) (by unfold maxLen; omega) (by omega) (by simp <;> omega) ?_; intro a1 cap1 w1 hown1 hg1; refine Hid.out ?_)
  refine (show ∀ {p : Prop}, p → Hid p from fun h => h) ?_
  have hg2 : (((w.alloc (.cells #[.slice ad n c] 26)).alloc (.cells #[.slice none 0 0] 26)).alloc (.cells #[] 49)).grownBy w1 (some (w.heap.size + 1 + 1)) := hg1
  have hown2 : w1.ownsRow (w.heap.size + 2) 49 3 (.slice a1 n cap1) n (fcells fs) := hown1
  have hz1' := hg2.size
  simp at hz1'
  have y1 : Box w1 (w.heap.size + 1) 26 (.slice none 0 0) := by
    refine Box.grown ?_ hg2 (by simp)
    exact (Box.new (w.alloc (.cells #[.slice (ad) n c] 26)) 26 (.slice none 0 0) (w.heap.size + 1) (by simp)).alloc _
  have K1 : Below w.heap.size w w1 := KK.grown hg2 (by simp; omega) (fun j hj => by simp at hj; omega)
  have HO1 := hideIt hown2
  clear hg1 hown1 hg2 KK HO0 HN hown2
  go_wp2
  go_loopw [7] (fun i wr => ∃ (k : Nat) (gs : List FileV) (a' : Option Addr) (m c' : Nat), k ≤ na ∧ i = .int .i64 (k : Int) ∧ Hid (Ran fs xs k gs ∧ gs.length + letters gs ≤ 1048576) ∧ Box wr (w.heap.size + 1) 26 (.slice none 0 0) ∧ Box wr w1.heap.size 26 (.slice a' m c') ∧
      Hid (wr.ownsRow (w.heap.size + 2) 49 3 (.slice a' m c') m (fcells gs)) ∧ Below w.heap.size w wr) (fun i _ => na - (intOf i).toNat)
  case atStart => exact ⟨0, fs, _, n, cap1, by omega, rfl, ⟨Ran.start _ _, HLt.out⟩, y1.alloc _, Box.new _ _ _ _ rfl, HO1.out.alloc _, K1.alloc (by omega) _⟩
  case round =>
    obtain ⟨k, gs, a', m, c', hk, rfl, hI, x1, x2, hown, hb⟩ := hrel
    have e1 := x2.cell
    have f1 := x2.frozen
    have l2 := x2.lt
    have zb := hb.size
    by_cases hlt : k < na
    · rcases HA.out with hz | ⟨b, off, rfl, hbl, hc⟩
      · omega
      · obtain ⟨x, hf⟩ : ∃ f, xs[k]? = some f := ⟨xs[k]'(by omega), List.getElem?_eq_getElem (by omega)⟩
        obtain ⟨c0, c1, c2, c3⟩ := hc k x hf
        have HC : Hid (∀ u, Good wr u → (u.cell? ⟨w1.heap.size, 0, none⟩ = some (.slice a' m c') ∧ u.cell? ⟨b, off + k * 4, none⟩ = some (.int .i64 x.kind) ∧ u.cell? ⟨b, off + k * 4 + 1, none⟩ = some (.string x.name) ∧ u.cell? ⟨b, off + k * 4 + 2, none⟩ = some (.string x.text) ∧ u.cell? ⟨b, off + k * 4 + 3, none⟩ = some (.string x.to)) ∧ Good wr u) := fun u hu => by
          have hbu : Below w.heap.size w u := hb.trans (Below.mono hu (by omega))
          exact ⟨⟨(x2.below hu l2).cell, by rw [hbu.cell hbl]; exact c0, by rw [hbu.cell hbl]; exact c1, by rw [hbu.cell hbl]; exact c2, by rw [hbu.cell hbl]; exact c3⟩, hu⟩
        have hS0 := HC.out _ (Good.refl wr).drew
        have b1 : (0 : Int) ≤ (k : Int) := by omega
        have b2 : (k : Int) < (na : Int) := by omega
        obtain ⟨hran, hlg⟩ := hI.out
        have HD := hideIt (fun u (hu : Good wr u) => (sDoAct_any gs hlg m a' c' x (HX.out x (List.mem_of_getElem? hf)) u (Fs_of_ownv (own_up hown.out hu))).mono fun _ v hA => (show ∃ a2 m2 c2, _ ∧ v.ownsRow wr.heap.size 49 3 (.slice a2 m2 c2) m2 (fcells ((doAct gs x).getD [])) ∧ Good wr v ∧ Keep u v by
          obtain ⟨a2, m2, c2, he, hw, hbb⟩ := act_ans hA
          exact ⟨a2, m2, c2, he, own_mono hw hu.size, hu.up hbb, Keep.of hbb⟩))
        have HHf := hideIt hf
        have HRn := hideIt hran
        clear hc c0 c1 c2 c3 hI hran hlg hf
        have zz : w1.heap.size < wr.heap.size := l2
        go_upto_region 5 with fail
        go_cut [8, 9] (fun p ok wx => ∃ bN a2 m2 c2, p = .pointer (some ⟨bN, 0, none⟩) ∧ ok = .bool (doAct gs x).isSome ∧ Good wr wx ∧ DBox wx wr.heap.size wx.heap.size bN a2 m2 c2 ((doAct gs x).getD []))
        case first =>
          generalize (doAct gs x).isSome = fl at *
          generalize (doAct gs x).getD [] = hs at *
          go_region_held3 (fun u => (u.cell? ⟨w1.heap.size, 0, none⟩ = some (.slice a' m c') ∧ u.cell? ⟨b, off + k * 4, none⟩ = some (.int .i64 x.kind) ∧ u.cell? ⟨b, off + k * 4 + 1, none⟩ = some (.string x.name) ∧ u.cell? ⟨b, off + k * 4 + 2, none⟩ = some (.string x.text) ∧ u.cell? ⟨b, off + k * 4 + 3, none⟩ = some (.string x.to)) ∧ Good wr u)
            (first | assumption | exact HC.out _ (Good.alloc (And.right (by assumption)) _) | exact HC.out _ (Good.set (And.right (by assumption)) _ _ _ (by omega)))
            ((go_at_call 23; refine (HD.out _ (And.right (by assumption))).mono ?_; rintro e w5 ⟨a2, m2, c2, rfl, ho5, hg5, hk5⟩; have hS5 := HC.out _ hg5; have z5 := hg5.size; (first | have bx := hk5.nil (Box.new wr _ _ _ rfl) | skip); try (have bc := bx.cell; have bz := bx.frozen)))
          all_goals
            go_wp2_with fail
            go_meet
            first
              | exact ⟨_, a2, m2, c2, rfl, rfl, Good.set hg5 _ _ _ (by omega), DBox.stored bx (by omega) ho5⟩
              | exact ⟨_, a2, m2, c2, rfl, rfl, Good.alloc hg5 _, DBox.laid (by omega) ho5⟩
        case rest =>
          obtain ⟨bN, a2, m2, c2, rfl, rfl, G, DN⟩ := hcut
          have y1c := x1.below G x1.lt
          have y2c := x2.below G l2
          have Kc : Below w.heap.size w wc := hb.trans (Below.mono G (by omega))
          have ownc := own_up hown.out G
          have zc := G.size
          clear HC hS0 HD
          cases ho : doAct gs x with
          | none =>
            have HE : Hid (P = (gs, k)) := by show P = (gs, k); rw [← HP.out]; exact HRn.out.stop HHf.out ho
            have r0 := y1c.cell
            have r1 := y1c.frozen
            have r2 := y2c.cell
            have s1 := (y1c.set (.slice a' m c')).cell
            have HO2 := hideIt (own_setLow ownc (w.heap.size + 1) 0 (.slice a' m c') (by omega))
            have q3 := Kc.setCell (p := ⟨w.heap.size + 1, 0, none⟩) (by show _ ≤ w.heap.size + 1; omega) (.slice a' m c')
            clear hown DN ownc
            go_wp2
            exact bodyPost_ret (v := .tuple #[.agg #[.slice a' m c'], .int .i64 (k : Int)]) (by simp [results, Try.results7, go_sem, s1]) rfl (by rw [HE.out]; exact ⟨a', m, c', rfl, own_mono HO2.out (by omega), q3⟩)
          | some hs =>
            rw [ho] at DN
            have HE : Hid (Ran fs xs (k + 1) hs ∧ hs.length + letters hs ≤ 1048576) := ⟨HRn.out.step HHf.out ho, disk_letters (doAct_disk ho)⟩
            have r2 := y2c.cell
            have r3 := y2c.frozen
            have r4 := DN.cell
            have DN2 : DBox wc wr.heap.size wc.heap.size bN a2 m2 c2 hs := DN
            have z1 := y1c.setOther (j := 0) (.slice a2 m2 c2) (show w.heap.size + 1 ≠ w1.heap.size by omega)
            have z2 := y2c.set (.slice a2 m2 c2)
            have HO2 := hideIt (own_mono (own_setLow DN2.own w1.heap.size 0 (.slice a2 m2 c2) (by omega)) (show w.heap.size + 2 ≤ _ by omega))
            have q3 := Kc.setCell (p := ⟨w1.heap.size, 0, none⟩) (by show _ ≤ w1.heap.size; omega) (.slice a2 m2 c2)
            clear hown DN ownc DN2
            go_wp2
            go_roundw
            case rel => exact ⟨k + 1, hs, a2, m2, c2, by omega, by go_num, HE.out, z1, z2, HO2.out, q3⟩
            case measure => simp [intOf]; omega
    · obtain rfl : k = na := by omega
      have HE : Hid (P = (gs, k)) := by
        show P = (gs, k)
        have := hI.out.1
        subst hlena
        rw [← HP.out]
        exact this.done
      have r0 := x1.cell
      have r1 := x1.frozen
      have s1 := (x1.set (.slice a' m c')).cell
      have HO2 := hideIt (own_setLow hown.out (w.heap.size + 1) 0 (.slice a' m c') (by omega))
      have q3 := hb.setCell (p := ⟨w.heap.size + 1, 0, none⟩) (by show _ ≤ w.heap.size + 1; omega) (.slice a' m c')
      clear hown hI
      go_wp2
      exact bodyPost_ret (v := .tuple #[.agg #[.slice a' m c'], .int .i64 (k : Int)]) (by simp [results, Try.results7, go_sem, s1]) rfl (by rw [HE.out]; exact ⟨a', m, c', rfl, own_mono HO2.out (by omega), q3⟩)
end Go.Proofs.Ythffflpclmpamaa
namespace Go.Proofs.Ythffflpclmpamaa
open Go.RowKit

/-- how many bytes of a file are left -/
def cutI (f : FileV) (l : Option Int) : Int := max f.kept (min (l.getD 0) f.text.size)
def cutF (f : FileV) (l : Option Int) : FileV := ⟨f.name, f.text.extract 0 (cutI f l).toNat, cutI f l⟩
def lose (fs : List FileV) (ls : List Int) : List FileV := fs.mapIdx fun i f => cutF f ls[i]?
theorem lose_snoc (fs : List FileV) (f : FileV) (ls : List Int) : lose (fs ++ [f]) ls = lose fs ls ++ [cutF f ls[fs.length]?] := by
  unfold lose
  rw [List.mapIdx_append]
  simp
theorem lose_len (fs : List FileV) (ls : List Int) : (lose fs ls).length = fs.length := by simp [lose]
theorem lose_take {fs : List FileV} {k : Nat} {f : FileV} (ls : List Int) (hf : fs[k]? = some f) : lose (fs.take (k + 1)) ls = lose (fs.take k) ls ++ [cutF f ls[k]?] := by
  have hk := (List.getElem?_eq_some_iff.1 hf).1
  rw [take_snocF fs k f hf, lose_snoc, List.length_take, Nat.min_eq_left (by omega)]
/-- what LoseDisk answers -/
noncomputable def loseO (fs : List FileV) (ls : List Int) : Option (List FileV) := if dB fs then some (lose fs ls) else none
theorem loseO_yes {fs : List FileV} (h : DiskR fs) (ls : List Int) : loseO fs ls = some (lose fs ls) := by unfold loseO; rw [dB_true h]; rfl
theorem loseO_no {fs : List FileV} (h : ¬ DiskR fs) (ls : List Int) : loseO fs ls = none := by unfold loseO; rw [dB_false h]; rfl
theorem loseO_len {fs : List FileV} {ls : List Int} : ((loseO fs ls).getD []).length ≤ 30 := by
  by_cases h : DiskR fs
  · rw [loseO_yes h]; simp [lose_len]; exact h.1
  · rw [loseO_no h]; simp
theorem disk_at {fs : List FileV} (hd : DiskR fs) {k : Nat} {f : FileV} (hf : fs[k]? = some f) : FileOk f := (hd.2 k (List.getElem?_eq_some_iff.1 hf).1 f hf).1
end Go.Proofs.Ythffflpclmpamaa
namespace Go.Proofs.Ythffflpclmpamaa
open Go.RowKit

/-- the worlds of the argument and the answer laid -/
def w2L (w : World) (a : Option Addr) (n c : Nat) : World := (w.alloc (.cells #[.slice a n c] 26)).alloc (.cells #[.slice none 0 0] 26)
theorem w2L_below (w : World) (a : Option Addr) (n c : Nat) : Below w.heap.size w (w2L w a n c) := ((Below.refl _ _).alloc (Nat.le_refl _) _).alloc (by simp) _
theorem w2L_size (w : World) (a : Option Addr) (n c : Nat) : (w2L w a n c).heap.size = w.heap.size + 2 := by simp [w2L]
theorem w2L_box0 (w : World) (a : Option Addr) (n c : Nat) : Box (w2L w a n c) w.heap.size 26 (.slice a n c) := (Box.new w _ _ _ rfl).alloc _
theorem w2L_box1 (w : World) (a : Option Addr) (n c : Nat) : Box (w2L w a n c) (w.heap.size + 1) 26 (.slice none 0 0) := Box.new _ _ _ _ (by simp)

theorem sLoseDisk_bad (fs : List FileV) (ls : List Int) (hfit : FitsF fs) (n : Nat) (a : Option Addr) (c : Nat) (hn : n ≤ maxLen) (ln : Nat) (al : Option Addr) (cl : Nat) (w : World) (h : Fs w w.heap.size a n fs) (hd : ¬ DiskR fs) :
    Calls Try.prog 28 #[.agg #[.slice a n c], .slice al ln cl] w (ActAns w (loseO fs ls)) := by
  have H := sDiskOk_any fs hfit n a c hn (w2L w a n c) (h.up (w2L_below w a n c))
  rw [dB_false hd] at H
  have HD := hideIt H
  rw [loseO_no hd]
  unfold ActAns
  dsimp only
  clear H hd h
  go_enter Try.func28, Try.ntmps28
  go_wp2_with (go_at_call 42; refine (show Calls Try.prog 42 #[.agg #[.slice a n c]] (w2L w a n c) _ from HD.out).mono ?_; rintro e w1 ⟨rfl, hb1⟩; refine Hid.out ?_)
  refine (show ∀ {p : Prop}, p → Hid p from fun h => h) ?_
  have b1 := (w2L_box1 w a n c).below hb1 (by rw [w2L_size]; omega)
  have c5 := b1.cell
  have f5 := b1.frozen
  have s1 := (b1.set (.slice none 0 0)).cell
  have q1 := ((w2L_below w a n c).trans (hb1.mono (by rw [w2L_size]; omega))).setCell (p := ⟨w.heap.size + 1, 0, none⟩) (by show w.heap.size ≤ w.heap.size + 1; omega) (.slice none 0 0)
  clear HD hb1 b1
  go_wp2
  exact bodyPost_ret (v := .tuple #[.agg #[.slice none 0 0], .bool false]) (by simp [results, Try.results28, go_sem, s1]) rfl ⟨rfl, q1⟩

set_option maxRecDepth 100000 in
set_option maxHeartbeats 8000000 in
theorem sLoseDisk_ok (fs : List FileV) (ls : List Int) (n : Nat) (a : Option Addr) (c : Nat) (ln : Nat) (al : Option Addr) (cl : Nat) (w : World) (h : Fs w w.heap.size a n fs) (hl : Is w w.heap.size al ln ls) (hd : DiskR fs) :
    Calls Try.prog 28 #[.agg #[.slice a n c], .slice al ln cl] w (ActAns w (loseO fs ls)) := by
  have hn30 : n ≤ 30 := by rw [← h.1]; exact hd.1
  have H := sDiskOk_any fs (disk_fits hd) n a c (by unfold maxLen; omega) (w2L w a n c) (h.up (w2L_below w a n c))
  rw [dB_true hd] at H
  obtain ⟨i0, hi, hz0, hz1, hz2⟩ := info_parts infoIF
  have HD := hideIt H
  obtain ⟨hlen, hrow⟩ := h
  obtain ⟨hlenL, hrowL⟩ := hl
  have HR := hideIt hrow
  have HL := hideIt hrowL
  have HDR := hideIt hd
  rw [loseO_yes hd]
  unfold ActAns
  dsimp only
  clear H hd hrow hrowL
  go_enter Try.func28, Try.ntmps28
  go_wp2_with (go_at_call 42; refine (show Calls Try.prog 42 #[.agg #[.slice a n c]] (w2L w a n c) _ from HD.out).mono ?_; rintro e w1 ⟨rfl, hb1⟩; refine Hid.out ?_)
  refine (show ∀ {p : Prop}, p → Hid p from fun h => h) ?_
  have y0 := (w2L_box0 w a n c).below hb1 (by rw [w2L_size]; omega)
  have y1 := (w2L_box1 w a n c).below hb1 (by rw [w2L_size]; omega)
  have K1 := (w2L_below w a n c).trans (hb1.mono (by rw [w2L_size]; omega))
  have z1 : w.heap.size + 2 ≤ w1.heap.size := by have := hb1.size; rw [w2L_size] at this; exact this
  clear HD hb1
  go_wp2
  go_loopw [7] (fun i wr => ∃ (k : Nat) (a' : Option Addr) (c' : Nat), k ≤ n ∧ i = .int .i64 (k : Int) ∧ Box wr w.heap.size 26 (.slice a n c) ∧ Box wr (w.heap.size + 1) 26 (.slice none 0 0) ∧ Box wr w1.heap.size 26 (.slice a' k c') ∧
      Hid (wr.ownsRow (w1.heap.size + 1) 49 3 (.slice a' k c') k (fcells (lose (fs.take k) ls))) ∧ Below w.heap.size w wr) (fun i _ => n - (intOf i).toNat)
  case atStart => exact ⟨0, none, 0, by omega, rfl, y0.alloc _, y1.alloc _, Box.new _ _ _ _ rfl, World.ownsRow_nil _ _ _ _, K1.alloc (by omega) _⟩
  case round =>
    obtain ⟨k, a', c', hk, rfl, x0, x1, x2, hown, hb⟩ := hrel
    have e0 := x0.cell
    have e1 := x2.cell
    have f1 := x2.frozen
    have l2 := x2.lt
    by_cases hlt : k < n
    · rcases HR.out with hz | ⟨b, off, rfl, hbl, hc⟩
      · omega
      · obtain ⟨f, hf⟩ : ∃ f, fs[k]? = some f := ⟨fs[k]'(by omega), List.getElem?_eq_getElem (by omega)⟩
        obtain ⟨c0, c1, c2⟩ := hc k f hf
        have d0 : wr.cell? ⟨b, off + k * 3, none⟩ = some (.string f.name) := by rw [hb.cell hbl]; exact c0
        have d1 : wr.cell? ⟨b, off + k * 3 + 1, none⟩ = some (.string f.text) := by rw [hb.cell hbl]; exact c1
        have d2 : wr.cell? ⟨b, off + k * 3 + 2, none⟩ = some (.int .i64 f.kept) := by rw [hb.cell hbl]; exact c2
        have b1 : (0 : Int) ≤ (k : Int) := by omega
        have b2 : (k : Int) < (n : Int) := by omega
        have hok := disk_at HDR.out hf
        obtain ⟨_, ht1, hk0, hk1⟩ := hok
        have hok : True := trivial
        have hbw : b < wr.heap.size := by omega
        have HO := hideIt hown.out
        have HNW := hideIt (fun s t (v : Int) => World.news_of_block (cs := #[.string s, .string t, .int .i64 v]) (t := 49) (fr := (0, 0)) (B := wr.heap.size + 1) (w := ((wr.alloc (.cells #[.string f.name, .string f.text, .int .i64 f.kept] 49)).alloc (.cells #[.string s, .string t, .int .i64 v] 49)).drew) (by
          have := heap_alloc_new (wr.alloc (.cells #[.string f.name, .string f.text, .int .i64 f.kept] 49)) (.cells #[.string s, .string t, .int .i64 v] 49)
          rw [show (wr.alloc (.cells #[.string f.name, .string f.text, .int .i64 f.kept] 49)).heap.size = wr.heap.size + 1 by simp] at this
          exact this))
        have hrow : ∀ x, x < w1.heap.size + 1 → some x ≠ (Value.slice a' k c').ownBlock := fun x hx e => by
          have := (hown.out.lt x e.symm).1
          omega
        have HKK : Hid (∀ (o : Obj) (w2 : World), (((wr.alloc (.cells #[.string f.name, .string f.text, .int .i64 f.kept] 49)).alloc o)).grownBy w2 (Value.slice a' k c').ownBlock →
            (w2.cell? ⟨wr.heap.size, 0, none⟩ = some (.string f.name) ∧ w2.cell? ⟨wr.heap.size, 1, none⟩ = some (.string f.text)) ∧ Box w2 w.heap.size 26 (.slice (some ⟨b, off, none⟩) n c) ∧ Box w2 (w.heap.size + 1) 26 (.slice none 0 0) ∧ Box w2 w1.heap.size 26 (.slice a' k c') ∧ Below w.heap.size w w2) := fun o w2 hg => by
          have hlr : ∀ r, (Value.slice a' k c').ownBlock = some r → r < wr.heap.size := fun r hr => (hown.out.lt r hr).2
          have y0 := ((x0.alloc (.cells #[.string f.name, .string f.text, .int .i64 f.kept] 49)).alloc o).grown hg (hrow _ (by omega))
          have y1 := ((x1.alloc (.cells #[.string f.name, .string f.text, .int .i64 f.kept] 49)).alloc o).grown hg (hrow _ (by omega))
          have y2 := ((x2.alloc (.cells #[.string f.name, .string f.text, .int .i64 f.kept] 49)).alloc o).grown hg (hrow _ (by omega))
          have hb1 : Below w.heap.size w w2 := ((hb.alloc (by omega) _).alloc (by simp; omega) _).grown hg (by simp; omega) (fun j hj => by have := (hown.out.lt j hj).1; omega)
          have hF : w2.heap[wr.heap.size]? = some (.cells #[.string f.name, .string f.text, .int .i64 f.kept] 49 (0, 0)) := by
            rw [hg.block wr.heap.size (by simp; omega) (fun e => by have := hlr _ e.symm; omega), Below.heap_alloc _ _ _ (by simp)]
            exact heap_alloc_new wr _
          exact ⟨⟨by rw [cell_of_row w2 _ 0 _ _ _ hF]; rfl, by rw [cell_of_row w2 _ 1 _ _ _ hF]; rfl⟩, y0, y1, y2, hb1⟩
        clear hc c0 c1 c2 hrow
        by_cases hkl : k < ln
        · rcases HL.out with hz | ⟨bl, ol, rfl, hbll, hcl⟩
          · omega
          · obtain ⟨x, hx⟩ : ∃ x, ls[k]? = some x := ⟨ls[k]'(by omega), List.getElem?_eq_getElem (by omega)⟩
            have hlk := hx
            have e9 : wr.cell? ⟨bl, ol + k, none⟩ = some (.int .i64 x) := by rw [hb.cell hbll]; exact hcl k x hx
            have hblw : bl < wr.heap.size := by omega
            have b3 : (k : Int) < (ln : Int) := by omega
            have d3 : decide ((k : Int) < (ln : Int)) = true := by simp; omega
            by_cases hxs : (f.text.size : Int) < x
            · have d4 : decide ((f.text.size : Int) < x) = true := by simp; omega
              have d5 : decide ((f.text.size : Int) < f.kept) = false := by simp; omega
              have hv : cutI f ls[k]? = (f.text.size : Int) := by unfold cutI; rw [hlk]; simp only [Option.getD]; omega
              have HX : Hid (fcells (lose (fs.take (k + 1)) ls) = fcells (lose (fs.take k) ls) ++ [.string f.name, .string f.text, .int .i64 (f.text.size : Int)]) := by
                show _ = _
                rw [lose_take ls hf, fcells_snoc]
                unfold cutF
                rw [hv]
                simp
              have v0 : (0 : Int) ≤ (f.text.size : Int) := by omega
              have v1 : (f.text.size : Int) ≤ (f.text.size : Int) := by omega
              have HK : Hid (∀ w2 : World, (((wr.alloc (.cells #[.string f.name, .string f.text, .int .i64 f.kept] 49)).alloc (.cells #[.string f.name, .string f.text, .int .i64 (f.text.size : Int)] 49)).drew).grownBy w2 (Value.slice a' k c').ownBlock →
                  (w2.cell? ⟨wr.heap.size, 0, none⟩ = some (.string f.name) ∧ w2.cell? ⟨wr.heap.size, 1, none⟩ = some (.string f.text)) ∧ Box w2 w.heap.size 26 (.slice (some ⟨b, off, none⟩) n c) ∧ Box w2 (w.heap.size + 1) 26 (.slice none 0 0) ∧ Box w2 w1.heap.size 26 (.slice a' k c') ∧ Below w.heap.size w w2) := fun w2 hg => HKK.out _ w2 ⟨hg.os, hg.tape, hg.output, hg.size, hg.block⟩
              clear hf hown hcl hok hv
              go_wp2
              go_region_law (refine step_append_lies _ (by rfl) _ _ _ (by rfl) (w1.heap.size + 1) 49 i0 _ 3 40 Try.underlying24 hi hz0 hz1 hz2 rfl (by omega) _ k _ (by rfl) (((HO.out.alloc _).alloc _).drew) ⟨wr.heap.size + 1, 0, none⟩ 1 1 [.string f.name, .string f.text, .int .i64 (f.text.size : Int)] (by rfl) (by rfl) (HNW.out _ _ _) (by simp [Value.oneCell']) (by omega) (by unfold maxLen; omega) (by omega) (by simp; omega) (wr.heap.size + 1 + 1) (by simp) ?_; intro g1 cap1 w2 hown1 hg1 hat1 hlt1; obtain ⟨S1, y0, y1, y2, hb1⟩ := HK.out _ hg1; have z1' := y2.cell; have z2' := y2.frozen)
              all_goals
                have lg := (hown1.lt g1 rfl).1
                have HOn := hideIt (own_setOther hown1 w1.heap.size 0 (.slice (some ⟨g1, 0, none⟩) (k + 1) cap1) (by omega))
                have q0 := y0.setOther (j := 0) (.slice (some ⟨g1, 0, none⟩) (k + 1) cap1) (show w.heap.size ≠ w1.heap.size by omega)
                have q1 := y1.setOther (j := 0) (.slice (some ⟨g1, 0, none⟩) (k + 1) cap1) (show w.heap.size + 1 ≠ w1.heap.size by omega)
                have q2 := y2.set (.slice (some ⟨g1, 0, none⟩) (k + 1) cap1)
                have q3 := hb1.setCell (p := ⟨w1.heap.size, 0, none⟩) (by show _ ≤ w1.heap.size; omega) (.slice (some ⟨g1, 0, none⟩) (k + 1) cap1)
                clear hown1 hg1 S1 HK HKK
                go_wp2
                exact ⟨⟨k + 1, _, _, by omega, by go_num, q0, q1, q2, by show _; rw [HX.out]; exact HOn.out, q3⟩, by simp [intOf]; omega⟩
            · have d4 : decide ((f.text.size : Int) < x) = false := by simp; omega
              by_cases hxk : x < f.kept
              · have d5 : decide (x < f.kept) = true := by simp; omega
                have hv : cutI f ls[k]? = f.kept := by unfold cutI; rw [hlk]; simp only [Option.getD]; omega
                have HX : Hid (fcells (lose (fs.take (k + 1)) ls) = fcells (lose (fs.take k) ls) ++ [.string f.name, .string (f.text.extract 0 f.kept.toNat), .int .i64 f.kept]) := by
                  show _ = _
                  rw [lose_take ls hf, fcells_snoc]
                  unfold cutF
                  rw [hv]
                  try rfl
                have v0 : (0 : Int) ≤ f.kept := by omega
                have v1 : f.kept ≤ (f.text.size : Int) := by omega
                have HK : Hid (∀ w2 : World, (((wr.alloc (.cells #[.string f.name, .string f.text, .int .i64 f.kept] 49)).alloc (.cells #[.string f.name, .string (f.text.extract 0 f.kept.toNat), .int .i64 f.kept] 49)).drew).grownBy w2 (Value.slice a' k c').ownBlock →
                    (w2.cell? ⟨wr.heap.size, 0, none⟩ = some (.string f.name) ∧ w2.cell? ⟨wr.heap.size, 1, none⟩ = some (.string f.text)) ∧ Box w2 w.heap.size 26 (.slice (some ⟨b, off, none⟩) n c) ∧ Box w2 (w.heap.size + 1) 26 (.slice none 0 0) ∧ Box w2 w1.heap.size 26 (.slice a' k c') ∧ Below w.heap.size w w2) := fun w2 hg => HKK.out _ w2 ⟨hg.os, hg.tape, hg.output, hg.size, hg.block⟩
                clear hf hown hcl hok hv
                go_wp2
                go_region_law (refine step_append_lies _ (by rfl) _ _ _ (by rfl) (w1.heap.size + 1) 49 i0 _ 3 40 Try.underlying24 hi hz0 hz1 hz2 rfl (by omega) _ k _ (by rfl) (((HO.out.alloc _).alloc _).drew) ⟨wr.heap.size + 1, 0, none⟩ 1 1 [.string f.name, .string (f.text.extract 0 f.kept.toNat), .int .i64 f.kept] (by rfl) (by rfl) (HNW.out _ _ _) (by simp [Value.oneCell']) (by omega) (by unfold maxLen; omega) (by omega) (by simp; omega) (wr.heap.size + 1 + 1) (by simp) ?_; intro g1 cap1 w2 hown1 hg1 hat1 hlt1; obtain ⟨S1, y0, y1, y2, hb1⟩ := HK.out _ hg1; have z1' := y2.cell; have z2' := y2.frozen)
                all_goals
                  have lg := (hown1.lt g1 rfl).1
                  have HOn := hideIt (own_setOther hown1 w1.heap.size 0 (.slice (some ⟨g1, 0, none⟩) (k + 1) cap1) (by omega))
                  have q0 := y0.setOther (j := 0) (.slice (some ⟨g1, 0, none⟩) (k + 1) cap1) (show w.heap.size ≠ w1.heap.size by omega)
                  have q1 := y1.setOther (j := 0) (.slice (some ⟨g1, 0, none⟩) (k + 1) cap1) (show w.heap.size + 1 ≠ w1.heap.size by omega)
                  have q2 := y2.set (.slice (some ⟨g1, 0, none⟩) (k + 1) cap1)
                  have q3 := hb1.setCell (p := ⟨w1.heap.size, 0, none⟩) (by show _ ≤ w1.heap.size; omega) (.slice (some ⟨g1, 0, none⟩) (k + 1) cap1)
                  clear hown1 hg1 S1 HK HKK
                  go_wp2
                  exact ⟨⟨k + 1, _, _, by omega, by go_num, q0, q1, q2, by show _; rw [HX.out]; exact HOn.out, q3⟩, by simp [intOf]; omega⟩
              · have d5 : decide (x < f.kept) = false := by simp; omega
                have hv : cutI f ls[k]? = x := by unfold cutI; rw [hlk]; simp only [Option.getD]; omega
                have HX : Hid (fcells (lose (fs.take (k + 1)) ls) = fcells (lose (fs.take k) ls) ++ [.string f.name, .string (f.text.extract 0 x.toNat), .int .i64 x]) := by
                  show _ = _
                  rw [lose_take ls hf, fcells_snoc]
                  unfold cutF
                  rw [hv]
                  try rfl
                have v0 : (0 : Int) ≤ x := by omega
                have v1 : x ≤ (f.text.size : Int) := by omega
                have HK : Hid (∀ w2 : World, (((wr.alloc (.cells #[.string f.name, .string f.text, .int .i64 f.kept] 49)).alloc (.cells #[.string f.name, .string (f.text.extract 0 x.toNat), .int .i64 x] 49)).drew).grownBy w2 (Value.slice a' k c').ownBlock →
                    (w2.cell? ⟨wr.heap.size, 0, none⟩ = some (.string f.name) ∧ w2.cell? ⟨wr.heap.size, 1, none⟩ = some (.string f.text)) ∧ Box w2 w.heap.size 26 (.slice (some ⟨b, off, none⟩) n c) ∧ Box w2 (w.heap.size + 1) 26 (.slice none 0 0) ∧ Box w2 w1.heap.size 26 (.slice a' k c') ∧ Below w.heap.size w w2) := fun w2 hg => HKK.out _ w2 ⟨hg.os, hg.tape, hg.output, hg.size, hg.block⟩
                clear hf hown hcl hok hv
                go_wp2
                go_region_law (refine step_append_lies _ (by rfl) _ _ _ (by rfl) (w1.heap.size + 1) 49 i0 _ 3 40 Try.underlying24 hi hz0 hz1 hz2 rfl (by omega) _ k _ (by rfl) (((HO.out.alloc _).alloc _).drew) ⟨wr.heap.size + 1, 0, none⟩ 1 1 [.string f.name, .string (f.text.extract 0 x.toNat), .int .i64 x] (by rfl) (by rfl) (HNW.out _ _ _) (by simp [Value.oneCell']) (by omega) (by unfold maxLen; omega) (by omega) (by simp; omega) (wr.heap.size + 1 + 1) (by simp) ?_; intro g1 cap1 w2 hown1 hg1 hat1 hlt1; obtain ⟨S1, y0, y1, y2, hb1⟩ := HK.out _ hg1; have z1' := y2.cell; have z2' := y2.frozen)
                all_goals
                  have lg := (hown1.lt g1 rfl).1
                  have HOn := hideIt (own_setOther hown1 w1.heap.size 0 (.slice (some ⟨g1, 0, none⟩) (k + 1) cap1) (by omega))
                  have q0 := y0.setOther (j := 0) (.slice (some ⟨g1, 0, none⟩) (k + 1) cap1) (show w.heap.size ≠ w1.heap.size by omega)
                  have q1 := y1.setOther (j := 0) (.slice (some ⟨g1, 0, none⟩) (k + 1) cap1) (show w.heap.size + 1 ≠ w1.heap.size by omega)
                  have q2 := y2.set (.slice (some ⟨g1, 0, none⟩) (k + 1) cap1)
                  have q3 := hb1.setCell (p := ⟨w1.heap.size, 0, none⟩) (by show _ ≤ w1.heap.size; omega) (.slice (some ⟨g1, 0, none⟩) (k + 1) cap1)
                  clear hown1 hg1 S1 HK HKK
                  go_wp2
                  exact ⟨⟨k + 1, _, _, by omega, by go_num, q0, q1, q2, by show _; rw [HX.out]; exact HOn.out, q3⟩, by simp [intOf]; omega⟩
        · have hlk : ls[k]? = none := List.getElem?_eq_none (by omega)
          have hcl : True := trivial
          have d3 : decide ((k : Int) < (ln : Int)) = false := by simp; omega
          have d4 : decide ((f.text.size : Int) < 0) = false := by simp
          by_cases hxk : 0 < f.kept
          · have d5 : decide (0 < f.kept) = true := by simp; omega
            have hv : cutI f ls[k]? = f.kept := by unfold cutI; rw [hlk]; simp only [Option.getD]; omega
            have HX : Hid (fcells (lose (fs.take (k + 1)) ls) = fcells (lose (fs.take k) ls) ++ [.string f.name, .string (f.text.extract 0 f.kept.toNat), .int .i64 f.kept]) := by
              show _ = _
              rw [lose_take ls hf, fcells_snoc]
              unfold cutF
              rw [hv]
              try rfl
            have v0 : (0 : Int) ≤ f.kept := by omega
            have v1 : f.kept ≤ (f.text.size : Int) := by omega
            have HK : Hid (∀ w2 : World, (((wr.alloc (.cells #[.string f.name, .string f.text, .int .i64 f.kept] 49)).alloc (.cells #[.string f.name, .string (f.text.extract 0 f.kept.toNat), .int .i64 f.kept] 49)).drew).grownBy w2 (Value.slice a' k c').ownBlock →
                (w2.cell? ⟨wr.heap.size, 0, none⟩ = some (.string f.name) ∧ w2.cell? ⟨wr.heap.size, 1, none⟩ = some (.string f.text)) ∧ Box w2 w.heap.size 26 (.slice (some ⟨b, off, none⟩) n c) ∧ Box w2 (w.heap.size + 1) 26 (.slice none 0 0) ∧ Box w2 w1.heap.size 26 (.slice a' k c') ∧ Below w.heap.size w w2) := fun w2 hg => HKK.out _ w2 ⟨hg.os, hg.tape, hg.output, hg.size, hg.block⟩
            clear hf hown hcl hok hv
            go_wp2
            go_region_law (refine step_append_lies _ (by rfl) _ _ _ (by rfl) (w1.heap.size + 1) 49 i0 _ 3 40 Try.underlying24 hi hz0 hz1 hz2 rfl (by omega) _ k _ (by rfl) (((HO.out.alloc _).alloc _).drew) ⟨wr.heap.size + 1, 0, none⟩ 1 1 [.string f.name, .string (f.text.extract 0 f.kept.toNat), .int .i64 f.kept] (by rfl) (by rfl) (HNW.out _ _ _) (by simp [Value.oneCell']) (by omega) (by unfold maxLen; omega) (by omega) (by simp; omega) (wr.heap.size + 1 + 1) (by simp) ?_; intro g1 cap1 w2 hown1 hg1 hat1 hlt1; obtain ⟨S1, y0, y1, y2, hb1⟩ := HK.out _ hg1; have z1' := y2.cell; have z2' := y2.frozen)
            all_goals
              have lg := (hown1.lt g1 rfl).1
              have HOn := hideIt (own_setOther hown1 w1.heap.size 0 (.slice (some ⟨g1, 0, none⟩) (k + 1) cap1) (by omega))
              have q0 := y0.setOther (j := 0) (.slice (some ⟨g1, 0, none⟩) (k + 1) cap1) (show w.heap.size ≠ w1.heap.size by omega)
              have q1 := y1.setOther (j := 0) (.slice (some ⟨g1, 0, none⟩) (k + 1) cap1) (show w.heap.size + 1 ≠ w1.heap.size by omega)
              have q2 := y2.set (.slice (some ⟨g1, 0, none⟩) (k + 1) cap1)
              have q3 := hb1.setCell (p := ⟨w1.heap.size, 0, none⟩) (by show _ ≤ w1.heap.size; omega) (.slice (some ⟨g1, 0, none⟩) (k + 1) cap1)
              clear hown1 hg1 S1 HK HKK
              go_wp2
              exact ⟨⟨k + 1, _, _, by omega, by go_num, q0, q1, q2, by show _; rw [HX.out]; exact HOn.out, q3⟩, by simp [intOf]; omega⟩
          · have d5 : decide (0 < f.kept) = false := by simp; omega
            have hv : cutI f ls[k]? = 0 := by unfold cutI; rw [hlk]; simp only [Option.getD]; omega
            have HX : Hid (fcells (lose (fs.take (k + 1)) ls) = fcells (lose (fs.take k) ls) ++ [.string f.name, .string ByteArray.empty, .int .i64 0]) := by
              show _ = _
              rw [lose_take ls hf, fcells_snoc]
              unfold cutF
              rw [hv]
              simp
            have v0 : (0 : Int) ≤ 0 := by omega
            have v1 : 0 ≤ (f.text.size : Int) := by omega
            have HK : Hid (∀ w2 : World, (((wr.alloc (.cells #[.string f.name, .string f.text, .int .i64 f.kept] 49)).alloc (.cells #[.string f.name, .string ByteArray.empty, .int .i64 0] 49)).drew).grownBy w2 (Value.slice a' k c').ownBlock →
                (w2.cell? ⟨wr.heap.size, 0, none⟩ = some (.string f.name) ∧ w2.cell? ⟨wr.heap.size, 1, none⟩ = some (.string f.text)) ∧ Box w2 w.heap.size 26 (.slice (some ⟨b, off, none⟩) n c) ∧ Box w2 (w.heap.size + 1) 26 (.slice none 0 0) ∧ Box w2 w1.heap.size 26 (.slice a' k c') ∧ Below w.heap.size w w2) := fun w2 hg => HKK.out _ w2 ⟨hg.os, hg.tape, hg.output, hg.size, hg.block⟩
            clear hf hown hcl hok hv
            go_wp2
            go_region_law (refine step_append_lies _ (by rfl) _ _ _ (by rfl) (w1.heap.size + 1) 49 i0 _ 3 40 Try.underlying24 hi hz0 hz1 hz2 rfl (by omega) _ k _ (by rfl) (((HO.out.alloc _).alloc _).drew) ⟨wr.heap.size + 1, 0, none⟩ 1 1 [.string f.name, .string ByteArray.empty, .int .i64 0] (by rfl) (by rfl) (HNW.out _ _ _) (by simp [Value.oneCell']) (by omega) (by unfold maxLen; omega) (by omega) (by simp; omega) (wr.heap.size + 1 + 1) (by simp) ?_; intro g1 cap1 w2 hown1 hg1 hat1 hlt1; obtain ⟨S1, y0, y1, y2, hb1⟩ := HK.out _ hg1; have z1' := y2.cell; have z2' := y2.frozen)
            all_goals
              have lg := (hown1.lt g1 rfl).1
              have HOn := hideIt (own_setOther hown1 w1.heap.size 0 (.slice (some ⟨g1, 0, none⟩) (k + 1) cap1) (by omega))
              have q0 := y0.setOther (j := 0) (.slice (some ⟨g1, 0, none⟩) (k + 1) cap1) (show w.heap.size ≠ w1.heap.size by omega)
              have q1 := y1.setOther (j := 0) (.slice (some ⟨g1, 0, none⟩) (k + 1) cap1) (show w.heap.size + 1 ≠ w1.heap.size by omega)
              have q2 := y2.set (.slice (some ⟨g1, 0, none⟩) (k + 1) cap1)
              have q3 := hb1.setCell (p := ⟨w1.heap.size, 0, none⟩) (by show _ ≤ w1.heap.size; omega) (.slice (some ⟨g1, 0, none⟩) (k + 1) cap1)
              clear hown1 hg1 S1 HK HKK
              go_wp2
              exact ⟨⟨k + 1, _, _, by omega, by go_num, q0, q1, q2, by show _; rw [HX.out]; exact HOn.out, q3⟩, by simp [intOf]; omega⟩
    · obtain rfl : k = n := by omega
      have e : fs.take k = fs := List.take_of_length_le (by omega)
      have hown' := hown.out
      rw [e] at hown'
      have r0 := x1.cell
      have r1 := x1.frozen
      have s1 := (x1.set (.slice a' k c')).cell
      have HO2 := hideIt (own_setLow hown' (w.heap.size + 1) 0 (.slice a' k c') (by omega))
      have q3 := hb.setCell (p := ⟨w.heap.size + 1, 0, none⟩) (by show _ ≤ w.heap.size + 1; omega) (.slice a' k c')
      clear hown hown' e
      go_wp2
      exact bodyPost_ret (v := .tuple #[.agg #[.slice a' k c'], .bool true]) (by simp [results, Try.results28, go_sem, s1]) rfl ⟨a', k, c', rfl, own_mono HO2.out (by omega), q3⟩

theorem sLoseDisk_any (fs : List FileV) (ls : List Int) (hlet : fs.length + letters fs ≤ 1048576) (n : Nat) (a : Option Addr) (c : Nat) (ln : Nat) (al : Option Addr) (cl : Nat) (_ : ln ≤ 1048576) (w : World) (h : Fs w w.heap.size a n fs) (hl : Is w w.heap.size al ln ls) :
    Calls Try.prog 28 #[.agg #[.slice a n c], .slice al ln cl] w (ActAns w (loseO fs ls)) := by
  by_cases hd : DiskR fs
  · exact sLoseDisk_ok fs ls n a c ln al cl w h hl hd
  · exact sLoseDisk_bad fs ls (fits_of hlet) n a c (by unfold maxLen; have := h.1; omega) ln al cl w h hd
end Go.Proofs.Ythffflpclmpamaa
