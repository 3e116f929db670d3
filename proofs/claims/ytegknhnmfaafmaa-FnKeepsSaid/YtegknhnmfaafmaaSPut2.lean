/- What the specification's l03Put answers at every list of files. -/
import Derived.Test.YtegknhnmfaafmaaSPut
namespace Go.Proofs.Ytegknhnmfaafmaa
open Go.RowKit

def moreB (a b : ByteArray) : Bool := !(Op.bytesLess a.toList b.toList || a.toList == b.toList)
/-- the files with one put in its place -/
def put (fs : List FileV) (f : FileV) : List FileV := fs.filter (fun g => lessB g.name f.name) ++ [f] ++ fs.filter (fun g => moreB g.name f.name)

/-- where l03Put stands: her boxes, the list that grows -/
structure PutAt (w : World) (B : Nat) (a : Option Addr) (n c : Nat) (f : FileV) (a' : Option Addr) (m c' : Nat) (gs : List FileV) (u : World) : Prop where
  x0 : Box u B 26 (.slice a n c)
  x1 : u.heap[B + 1]? = some (.cells #[.string f.name, .string f.text, .int .i64 f.kept] 36 (0, 0))
  x2 : Box u (B + 1 + 1) 26 (.slice none 0 0)
  x3 : Box u (B + 1 + 1 + 1) 26 (.slice a' m c')
  own : u.ownsRow (B + 1 + 1 + 1 + 1) 36 3 (.slice a' m c') m (fcells gs)
  below : Below B w u

theorem PutAt.append {w : World} {B : Nat} {a : Option Addr} {n c : Nat} {f : FileV} {a' : Option Addr} {m c' : Nat} {gs : List FileV} {u w1 : World} (h : PutAt w B a n c f a' m c' gs u) (hB : B = w.heap.size) {o : Obj} {g1 cap1 : Nat} {h' : FileV}
    (hown : w1.ownsRow (B + 1 + 1 + 1 + 1) 36 3 (.slice (some ⟨g1, 0, none⟩) (m + 1) cap1) (m + 1) (fcells gs ++ [.string h'.name, .string h'.text, .int .i64 h'.kept])) (hg : (u.alloc o).grownBy w1 (Value.slice a' m c').ownBlock) :
    PutAt w B a n c f a' m c' gs (u.alloc o) → PutAt w B a n c f (some ⟨g1, 0, none⟩) (m + 1) cap1 (gs ++ [h']) (w1.setCell ⟨B + 1 + 1 + 1, 0, none⟩ (.slice (some ⟨g1, 0, none⟩) (m + 1) cap1)) := by
  intro hu
  have hrow : ∀ x, x < B + 1 + 1 + 1 + 1 → some x ≠ (Value.slice a' m c').ownBlock := fun x hx e => by
    have := (h.own.lt x e.symm).1
    omega
  have l3 := h.x3.lt
  have y0 := hu.x0.grown hg (hrow _ (by omega))
  have y2 := hu.x2.grown hg (hrow _ (by omega))
  have y3 := hu.x3.grown hg (hrow _ (by omega))
  have y1 : w1.heap[B + 1]? = some (.cells #[.string f.name, .string f.text, .int .i64 f.kept] 36 (0, 0)) := by rw [hg.block (B + 1) (by simp; omega) (hrow _ (by omega))]; exact hu.x1
  have hb1 : Below B w w1 := hu.below.grown hg (by simp; omega) (fun j hj => by have := (h.own.lt j hj).1; omega)
  have lg := (hown.lt g1 rfl).1
  refine ⟨y0.setOther _ (by omega), ?_, y2.setOther _ (by omega), y3.set _, ?_, hb1.setCell (p := ⟨B + 1 + 1 + 1, 0, none⟩) (by show B ≤ B + 1 + 1 + 1; omega) _⟩
  · rw [heap_setCell_other w1 ⟨B + 1 + 1 + 1, 0, none⟩ (B + 1) _ (by show B + 1 ≠ B + 1 + 1 + 1; omega)]; exact y1
  · rw [fcells_snoc]; exact own_setOther hown _ 0 _ (by omega)

theorem PutAt.alloc {w : World} {B : Nat} {a : Option Addr} {n c : Nat} {f : FileV} {a' : Option Addr} {m c' : Nat} {gs : List FileV} {u : World} (h : PutAt w B a n c f a' m c' gs u) (o : Obj) : PutAt w B a n c f a' m c' gs (u.alloc o) :=
  have l3 := h.x3.lt
  ⟨h.x0.alloc o, by rw [Below.heap_alloc u o (B + 1) (by omega)]; exact h.x1, h.x2.alloc o, h.x3.alloc o, h.own.alloc o, h.below.alloc (by omega) o⟩

theorem PutAt.drewN {w : World} {B : Nat} {a : Option Addr} {n c : Nat} {f : FileV} {a' : Option Addr} {m c' : Nat} {gs : List FileV} {u : World} (h : PutAt w B a n c f a' m c' gs u) (q : Nat) : PutAt w B a n c f a' m c' gs (u.drewN q) :=
  ⟨h.x0, h.x1, h.x2, h.x3, h.own, below_drewN h.below q⟩
theorem PutAt.drew {w : World} {B : Nat} {a : Option Addr} {n c : Nat} {f : FileV} {a' : Option Addr} {m c' : Nat} {gs : List FileV} {u : World} (h : PutAt w B a n c f a' m c' gs u) : PutAt w B a n c f a' m c' gs u.drew :=
  ⟨h.x0, h.x1, h.x2, h.x3, h.own, h.below.drew⟩
theorem PutAt.fcell {w : World} {B : Nat} {a : Option Addr} {n c : Nat} {f : FileV} {a' : Option Addr} {m c' : Nat} {gs : List FileV} {u : World} (h : PutAt w B a n c f a' m c' gs u) :
    u.cell? ⟨B + 1, 0, none⟩ = some (.string f.name) ∧ u.cell? ⟨B + 1, 1, none⟩ = some (.string f.text) ∧ u.cell? ⟨B + 1, 2, none⟩ = some (.int .i64 f.kept) :=
  ⟨by rw [cell_of_row u (B + 1) 0 _ _ _ h.x1]; rfl, by rw [cell_of_row u (B + 1) 1 _ _ _ h.x1]; rfl, by rw [cell_of_row u (B + 1) 2 _ _ _ h.x1]; rfl⟩

set_option maxRecDepth 100000 in
set_option maxHeartbeats 8000000 in
theorem l03Put_any (fs : List FileV) (f : FileV) (n : Nat) (a : Option Addr) (c : Nat) (hn : n ≤ 1048576) (w : World) (h : Fs w w.heap.size a n fs) :
    Calls Try.prog 24 #[.agg #[.slice a n c], .agg #[.string f.name, .string f.text, .int .i64 f.kept]] w fun e w' => ∃ a' m c', e = .returned (.agg #[.slice a' m c']) ∧ w'.ownsRow w.heap.size 36 3 (.slice a' m c') m (fcells (put fs f)) ∧ Below w.heap.size w w' := by
  obtain ⟨i0, hi, hz0, hz1, hz2⟩ := info_parts infoIF
  obtain ⟨hlen, hrow⟩ := h
  have HR := hideIt hrow
  clear hrow
  go_enter Try.func24, Try.ntmps24
  go_wp2
  go_loopw [6] (fun i wr => ∃ (k m : Nat) (a' : Option Addr) (c' : Nat), k ≤ n ∧ m ≤ k ∧ i = .int .i64 (k : Int) ∧ PutAt w w.heap.size a n c f a' m c' ((fs.take k).filter (fun g => lessB g.name f.name)) wr) (fun i _ => n - (intOf i).toNat)
  case atStart =>
    refine ⟨0, 0, none, 0, by omega, by omega, rfl, ?_, ?_, ?_, ?_, by simpa [fcells] using World.ownsRow_nil _ _ _ _, ?_⟩
    · exact (((Box.new w _ _ _ rfl).alloc _).alloc _).alloc _
    · have h2 : ((w.alloc (.cells #[.slice a n c] 26)).alloc (.cells #[.string f.name, .string f.text, .int .i64 f.kept] 36)).heap[w.heap.size + 1]? = some (.cells #[.string f.name, .string f.text, .int .i64 f.kept] 36 (0, 0)) := by
        have := heap_alloc_new (w.alloc (.cells #[.slice a n c] 26)) (.cells #[.string f.name, .string f.text, .int .i64 f.kept] 36)
        simpa using this
      rw [Below.heap_alloc _ _ _ (by simp), Below.heap_alloc _ _ _ (by simp)]
      exact h2
    · exact (Box.new _ _ _ _ (by simp)).alloc _
    · exact Box.new _ _ _ _ (by simp)
    · exact ((((Below.refl _ _).alloc (Nat.le_refl _) _).alloc (by simp) _).alloc (by simp; omega) _).alloc (by simp; omega) _
  case round =>
    obtain ⟨k, m, a', c', hk, hmk, rfl, hp⟩ := hrel
    by_cases hlt : k < n
    · rcases HR.out with hz | ⟨b, off, rfl, hbl, hc⟩
      · omega
      · obtain ⟨g, hg⟩ : ∃ g, fs[k]? = some g := ⟨fs[k]'(by omega), List.getElem?_eq_getElem (by omega)⟩
        obtain ⟨c0, c1, c2⟩ := hc k g hg
        have HC : Hid (∀ u, Below w.heap.size w u → u.cell? ⟨b, off + k * 3, none⟩ = some (.string g.name) ∧ u.cell? ⟨b, off + k * 3 + 1, none⟩ = some (.string g.text) ∧ u.cell? ⟨b, off + k * 3 + 2, none⟩ = some (.int .i64 g.kept)) := fun u hu =>
          ⟨by rw [hu.cell hbl]; exact c0, by rw [hu.cell hbl]; exact c1, by rw [hu.cell hbl]; exact c2⟩
        have b1 : (0 : Int) ≤ (k : Int) := by omega
        have b2 : (k : Int) < (n : Int) := by omega
        have e0 := hp.x0.cell
        have e1 := hp.fcell.1
        obtain ⟨d0, d1, d2⟩ := HC.out _ hp.below
        have HP := hideIt hp
        clear hc c0 c1 c2 hp
        cases hh : lessB g.name f.name with
        | false =>
          have HX : Hid ((fs.take (k + 1)).filter (fun g => lessB g.name f.name) = (fs.take k).filter (fun g => lessB g.name f.name)) := by
            show _ = _
            rw [take_snocF fs k g hg, List.filter_append]; simp [hh]
          unfold lessB at hh
          clear hg HC
          go_wp2
          go_quiet (fail)
          go_wp2
          exact ⟨⟨k + 1, m, a', c', by omega, by omega, by go_num, by rw [HX.out]; exact HP.out.drewN _⟩, by simp [intOf]; omega⟩
        | true =>
          have HX : Hid ((fs.take (k + 1)).filter (fun g => lessB g.name f.name) = (fs.take k).filter (fun g => lessB g.name f.name) ++ [g]) := by
            show _ = _
            rw [take_snocF fs k g hg, List.filter_append]; simp [hh]
          unfold lessB at hh
          clear hg
          go_wp2
          go_quiet (fail)
          go_wp2
          have HQ := hideIt (HP.out.drewN nq)
          clear d0 d1 d2 e0 e1 HP
          generalize wr.drewN nq = wq at HQ ⊢
          have e0 := HQ.out.x0.cell
          have e3 := HQ.out.x3.cell
          have f3 := HQ.out.x3.frozen
          have l3 := HQ.out.x3.lt
          have hown := HQ.out.own
          obtain ⟨d0, d1, d2⟩ := HC.out _ HQ.out.below
          have HK : Hid (∀ w1 : World, ((wq.alloc (.cells #[.string g.name, .string g.text, .int .i64 g.kept] 36)).drew).grownBy w1 (Value.slice a' m c').ownBlock →
              (w1.cell? ⟨w.heap.size, 0, none⟩ = some (.slice (some ⟨b, off, none⟩) n c) ∧ w1.cell? ⟨b, off + k * 3, none⟩ = some (.string g.name) ∧ w1.cell? ⟨b, off + k * 3 + 1, none⟩ = some (.string g.text) ∧ w1.cell? ⟨b, off + k * 3 + 2, none⟩ = some (.int .i64 g.kept)) ∧
              w1.cell? ⟨w.heap.size + 1 + 1 + 1, 0, none⟩ = some (.slice a' m c') ∧ w1.frozen? ⟨w.heap.size + 1 + 1 + 1, 0, none⟩ = false) := fun w1 hg => by
            have hg' : (wq.alloc (.cells #[.string g.name, .string g.text, .int .i64 g.kept] 36)).grownBy w1 (Value.slice a' m c').ownBlock := ⟨hg.os, hg.tape, hg.output, hg.size, hg.block⟩
            have hrow : ∀ x, x < w.heap.size + 1 + 1 + 1 + 1 → some x ≠ (Value.slice a' m c').ownBlock := fun x hx e => by
              have := (hown.lt x e.symm).1
              omega
            have ha := HQ.out.alloc (.cells #[.string g.name, .string g.text, .int .i64 g.kept] 36)
            have y0 := ha.x0.grown hg' (hrow _ (by omega))
            have y3 := ha.x3.grown hg' (hrow _ (by omega))
            have hb1 : Below w.heap.size w w1 := ha.below.grown hg' (by simp; omega) (fun j hj => by have := (hown.lt j hj).1; omega)
            exact ⟨⟨y0.cell, HC.out _ hb1⟩, y3.cell, y3.frozen⟩
          go_region_law (refine step_append_lies _ (by rfl) _ _ _ (by rfl) (w.heap.size + 1 + 1 + 1 + 1) 36 i0 _ 3 40 Try.underlying24 hi hz0 hz1 hz2 rfl (by omega) _ m _ (by rfl) ((hown.alloc _).drew) ⟨wq.heap.size, 0, none⟩ 1 1 [.string g.name, .string g.text, .int .i64 g.kept] (by rfl) (by rfl) (World.news_of_block (cs := #[.string g.name, .string g.text, .int .i64 g.kept]) (t := 36) (fr := (0, 0)) (heap_alloc_new wq _)) (by simp [Value.oneCell']) (by omega) (by unfold maxLen; omega) (by omega) (by simp; omega) (wq.heap.size + 1) (by simp) ?_; intro g1 cap1 w1 hown1 hg1 hat1 hlt1; obtain ⟨S1, z1, z2⟩ := HK.out _ hg1)
          all_goals
            have HN := hideIt (HQ.out.append rfl (o := .cells #[.string g.name, .string g.text, .int .i64 g.kept] 36) hown1 ⟨hg1.os, hg1.tape, hg1.output, hg1.size, hg1.block⟩ (HQ.out.alloc _))
            clear hown1 hg1 hown S1 HK HQ HC
            go_wp2
            exact ⟨⟨k + 1, m + 1, _, _, by omega, by omega, by go_num, by rw [HX.out]; exact HN.out⟩, by simp [intOf]; omega⟩
    · have e : fs.take k = fs := List.take_of_length_le (by omega)
      rw [e] at hp
      have HP := hideIt hp
      have e3 := hp.x3.cell
      have f3 := hp.x3.frozen
      have l3 := hp.x3.lt
      have hown := hp.own
      obtain ⟨v0, v1, v2⟩ := hp.fcell
      have e0 := hp.x0.cell
      clear hp e
      go_wp2_with (at_builtin; refine wpList_append_lies _ rfl _ _ 24 rfl (w.heap.size + 1 + 1 + 1 + 1) 36 i0 _ 3 40 Try.underlying24 hi hz0 hz1 hz2 rfl (by decide) _ _ _ rfl (hown.alloc _) ⟨wr.heap.size, 0, none⟩ 1 1 [.string f.name, .string f.text, .int .i64 f.kept] rfl rfl (World.news_of_block (cs := #[.string f.name, .string f.text, .int .i64 f.kept]) (t := 36) (fr := (0, 0)) (heap_alloc_new wr _)) (by simp [Value.oneCell']) (by omega) (by unfold maxLen; omega) (by omega) (by simp; omega) (wr.heap.size + 1) (by simp) ?_)
      intro g1 cap1 w1 hown1 hg1 _ _
      have hrow : ∀ x, x < w.heap.size + 1 + 1 + 1 + 1 → some x ≠ (Value.slice a' m c').ownBlock := fun x hx e => by
        have := (hown.lt x e.symm).1
        omega
      have y3 := (HP.out.alloc (.cells #[.string f.name, .string f.text, .int .i64 f.kept] 36)).x3.grown hg1 (hrow _ (by omega))
      have z1 := y3.cell
      have z2 := y3.frozen
      have HN := hideIt (HP.out.append rfl (o := .cells #[.string f.name, .string f.text, .int .i64 f.kept] 36) hown1 hg1 (HP.out.alloc _))
      clear hown1 hg1 hown y3 hrow e0 e3 f3 v0 v1 v2
      go_wp2
      go_loopw [7] (fun i wr => ∃ (k m : Nat) (a' : Option Addr) (c' : Nat), k ≤ n ∧ m ≤ n + 1 + k ∧ i = .int .i64 (k : Int) ∧ PutAt w w.heap.size a n c f a' m c' (fs.filter (fun g => lessB g.name f.name) ++ [f] ++ (fs.take k).filter (fun g => moreB g.name f.name)) wr) (fun i _ => n - (intOf i).toNat)
      case atStart => exact ⟨0, m + 1, _, _, by omega, by omega, rfl, by simpa using HN.out⟩
      case round =>
        obtain ⟨k, m, a', c', hk, hmk, rfl, hp⟩ := hrel
        by_cases hlt : k < n
        · rcases HR.out with hz | ⟨b, off, rfl, hbl, hc⟩
          · omega
          · obtain ⟨g, hg⟩ : ∃ g, fs[k]? = some g := ⟨fs[k]'(by omega), List.getElem?_eq_getElem (by omega)⟩
            obtain ⟨c0, c1, c2⟩ := hc k g hg
            have HC : Hid (∀ u, Below w.heap.size w u → u.cell? ⟨b, off + k * 3, none⟩ = some (.string g.name) ∧ u.cell? ⟨b, off + k * 3 + 1, none⟩ = some (.string g.text) ∧ u.cell? ⟨b, off + k * 3 + 2, none⟩ = some (.int .i64 g.kept)) := fun u hu =>
              ⟨by rw [hu.cell hbl]; exact c0, by rw [hu.cell hbl]; exact c1, by rw [hu.cell hbl]; exact c2⟩
            have b1 : (0 : Int) ≤ (k : Int) := by omega
            have b2 : (k : Int) < (n : Int) := by omega
            have e0 := hp.x0.cell
            have e1 := hp.fcell.1
            obtain ⟨d0, d1, d2⟩ := HC.out _ hp.below
            have HP := hideIt hp
            clear hc c0 c1 c2 hp
            cases hh : moreB g.name f.name with
            | false =>
              have HX : Hid (fs.filter (fun g => lessB g.name f.name) ++ [f] ++ (fs.take (k + 1)).filter (fun g => moreB g.name f.name) = fs.filter (fun g => lessB g.name f.name) ++ [f] ++ (fs.take k).filter (fun g => moreB g.name f.name)) := by
                show _ = _
                rw [take_snocF fs k g hg, List.filter_append]; simp [hh, List.append_assoc]
              unfold moreB at hh
              clear hg HC
              go_wp2
              go_quiet (fail)
              go_wp2
              exact ⟨⟨k + 1, m, a', c', by omega, by omega, by go_num, by rw [HX.out]; exact HP.out.drewN _⟩, by simp [intOf]; omega⟩
            | true =>
              have HX : Hid (fs.filter (fun g => lessB g.name f.name) ++ [f] ++ (fs.take (k + 1)).filter (fun g => moreB g.name f.name) = fs.filter (fun g => lessB g.name f.name) ++ [f] ++ (fs.take k).filter (fun g => moreB g.name f.name) ++ [g]) := by
                show _ = _
                rw [take_snocF fs k g hg, List.filter_append]; simp [hh, List.append_assoc]
              unfold moreB at hh
              clear hg
              go_wp2
              go_quiet (fail)
              go_wp2
              have HQ := hideIt (HP.out.drewN nq)
              clear d0 d1 d2 e0 e1 HP
              generalize wr.drewN nq = wq at HQ ⊢
              have e0 := HQ.out.x0.cell
              have e3 := HQ.out.x3.cell
              have f3 := HQ.out.x3.frozen
              have l3 := HQ.out.x3.lt
              have hown := HQ.out.own
              obtain ⟨d0, d1, d2⟩ := HC.out _ HQ.out.below
              have HK : Hid (∀ w1 : World, ((wq.alloc (.cells #[.string g.name, .string g.text, .int .i64 g.kept] 36)).drew).grownBy w1 (Value.slice a' m c').ownBlock →
                  (w1.cell? ⟨w.heap.size, 0, none⟩ = some (.slice (some ⟨b, off, none⟩) n c) ∧ w1.cell? ⟨b, off + k * 3, none⟩ = some (.string g.name) ∧ w1.cell? ⟨b, off + k * 3 + 1, none⟩ = some (.string g.text) ∧ w1.cell? ⟨b, off + k * 3 + 2, none⟩ = some (.int .i64 g.kept)) ∧
                  w1.cell? ⟨w.heap.size + 1 + 1 + 1, 0, none⟩ = some (.slice a' m c') ∧ w1.frozen? ⟨w.heap.size + 1 + 1 + 1, 0, none⟩ = false) := fun w1 hg => by
                have hg' : (wq.alloc (.cells #[.string g.name, .string g.text, .int .i64 g.kept] 36)).grownBy w1 (Value.slice a' m c').ownBlock := ⟨hg.os, hg.tape, hg.output, hg.size, hg.block⟩
                have hrow : ∀ x, x < w.heap.size + 1 + 1 + 1 + 1 → some x ≠ (Value.slice a' m c').ownBlock := fun x hx e => by
                  have := (hown.lt x e.symm).1
                  omega
                have ha := HQ.out.alloc (.cells #[.string g.name, .string g.text, .int .i64 g.kept] 36)
                have y0 := ha.x0.grown hg' (hrow _ (by omega))
                have y3 := ha.x3.grown hg' (hrow _ (by omega))
                have hb1 : Below w.heap.size w w1 := ha.below.grown hg' (by simp; omega) (fun j hj => by have := (hown.lt j hj).1; omega)
                exact ⟨⟨y0.cell, HC.out _ hb1⟩, y3.cell, y3.frozen⟩
              go_region_law (refine step_append_lies _ (by rfl) _ _ _ (by rfl) (w.heap.size + 1 + 1 + 1 + 1) 36 i0 _ 3 40 Try.underlying24 hi hz0 hz1 hz2 rfl (by omega) _ m _ (by rfl) ((hown.alloc _).drew) ⟨wq.heap.size, 0, none⟩ 1 1 [.string g.name, .string g.text, .int .i64 g.kept] (by rfl) (by rfl) (World.news_of_block (cs := #[.string g.name, .string g.text, .int .i64 g.kept]) (t := 36) (fr := (0, 0)) (heap_alloc_new wq _)) (by simp [Value.oneCell']) (by omega) (by unfold maxLen; omega) (by omega) (by simp; omega) (wq.heap.size + 1) (by simp) ?_; intro g1 cap1 w1 hown1 hg1 hat1 hlt1; obtain ⟨S1, z1, z2⟩ := HK.out _ hg1)
              all_goals
                have HN := hideIt (HQ.out.append rfl (o := .cells #[.string g.name, .string g.text, .int .i64 g.kept] 36) hown1 ⟨hg1.os, hg1.tape, hg1.output, hg1.size, hg1.block⟩ (HQ.out.alloc _))
                clear hown1 hg1 hown S1 HK HQ HC
                go_wp2
                exact ⟨⟨k + 1, m + 1, _, _, by omega, by omega, by go_num, by rw [HX.out]; exact HN.out⟩, by simp [intOf]; omega⟩
        · have e : fs.take k = fs := List.take_of_length_le (by omega)
          rw [e] at hp
          have r0 := hp.x2.cell
          have r1 := hp.x2.frozen
          have e3 := hp.x3.cell
          have e0 := hp.x0.cell
          have s1 := (hp.x2.set (.slice a' m c')).cell
          have HO2 := hideIt (own_setLow hp.own (w.heap.size + 1 + 1) 0 (.slice a' m c') (by omega))
          have q3 := hp.below.setCell (p := ⟨w.heap.size + 1 + 1, 0, none⟩) (by show _ ≤ w.heap.size + 1 + 1; omega) (.slice a' m c')
          clear hp e HN
          go_wp2
          exact bodyPost_ret (v := .agg #[.slice a' m c']) (by simp [results, Try.results24, go_sem, s1]) rfl ⟨a', m, c', rfl, own_mono HO2.out (by omega), q3⟩
end Go.Proofs.Ytegknhnmfaafmaa
