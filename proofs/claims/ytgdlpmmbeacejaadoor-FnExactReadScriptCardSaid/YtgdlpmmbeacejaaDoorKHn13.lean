/- The specification's Labels. The program's HeadNew. -/
import Derived.Test.YtgdlpmmbeacejaaDoorKILabels
import Derived.Test.YtgdlpmmbeacejaaDoorKOpenGraph
import Derived.Deep.AppendLies
namespace Go.Proofs.YtgdlpmmbeacejaaDoor.O
open Go.RowKit

theorem ic_set (ls : List Int) (i : Nat) (x : Int) : (ic ls).set i (.int .i64 x) = ic (ls.set i x) := by simp [ic, List.map_set]

/-- the row of labels is ours -/
structure LSt (w : World) (g cap n : Nat) (ls : List Int) (u : World) : Prop where
  own : u.ownsRow w.heap.size 3 1 (.slice (some ⟨g, 0, none⟩) n cap) n (ic ls)
  bel : Below w.heap.size w u
theorem LSt.len {w : World} {g cap n : Nat} {ls : List Int} {u : World} (h : LSt w g cap n ls u) : ls.length = n := by have := h.own.1; rw [ic_len] at this; omega
theorem LSt.cell {w : World} {g cap n : Nat} {ls : List Int} {u : World} (h : LSt w g cap n ls u) (i : Nat) (hi : i < n) : u.cell? ⟨g, i, none⟩ = some (.int .i64 (atI ls (i : Int))) := by
  rw [h.own.cellAt i (by omega)]
  exact ic_at (atI_some (by rw [h.len]; exact hi))
theorem LSt.set {w : World} {g cap n : Nat} {ls : List Int} {u : World} (h : LSt w g cap n ls u) (i : Nat) (x : Int) : LSt w g cap n (ls.set i x) (u.setCell ⟨g, i, none⟩ (.int .i64 x)) := by
  have hs := h.own.stored i (.int .i64 x)
  have hl := h.own.lt g rfl
  refine ⟨?_, h.bel.setCell (p := ⟨g, i, none⟩) hl.1 _⟩
  rw [← ic_set]
  exact hs.1

set_option maxRecDepth 100000 in
set_option maxHeartbeats 4000000 in
theorem l05Labels_any (nn : Nat) (hn0 : 1 ≤ nn) (hn12 : nn ≤ 12) (es : List EdgeV) (hE : EsIn es nn) (n : Nat) (a : Option Addr) (c : Nat) (hn : n ≤ 1048576) (w : World) (h : Es w w.heap.size a n es) :
    Calls Tryd.prog 36 #[.int .i64 (nn : Int), .slice a n c] w fun e w' => IAns w (labs es nn nn) e w' := by
  obtain ⟨i0, hi, hz0, hz1, hz2⟩ := info_parts info3i
  obtain ⟨hlen, hrow⟩ := h
  have HR := hideIt hrow
  have HE := hideIt hE
  clear hrow hE
  go_enter Tryd.func36, Tryd.ntmps36
  go_wp2
  go_loopw [5, 6] (fun r i wr => ∃ (k : Nat) (a' : Option Addr) (c' : Nat), k ≤ nn ∧ i = .int .i64 (k : Int) ∧ r = .slice a' k c' ∧ ISt w a' k c' (lab0 k) wr) (fun _ i _ => nn - (intOf i).toNat)
  case atStart => exact ⟨0, _, _, by omega, rfl, rfl, ISt.start w⟩
  case round =>
    obtain ⟨k, a', c', hk, rfl, rfl, hst⟩ := hrel
    have zr := hst.size
    by_cases hlt : k < nn
    · have b2 : (k : Int) < (nn : Int) := by omega
      go_wp2_with (at_builtin; refine wpList_append_own _ rfl _ _ 32 rfl w.heap.size 3 i0 _ 1 8 Tryd.underlying32 hi hz0 hz1 hz2 rfl (by decide) _ _ _ rfl (hst.own.alloc _) ⟨wr.heap.size, 0, none⟩ 1 1 [.int .i64 (k : Int)] rfl rfl (newsI _ _) (by intro u hu; simp at hu; subst hu; rfl) (by unfold maxLen; omega) (by omega) (by simp; omega) ?_)
      intro v2 w2 hown2 hg2 hn2
      obtain ⟨a2, c2, rfl, hst2⟩ := hst.app hown2 hg2
      rw [← lab0_snoc] at hst2
      clear hown2 hg2 hn2 hst
      go_wp2
      exact ⟨⟨k + 1, a2, c2, by omega, by go_num, rfl, hst2⟩, by simp [intOf]; omega⟩
    · obtain rfl : k = nn := by omega
      obtain ⟨g, rfl, hL0⟩ : ∃ g, a' = some ⟨g, 0, none⟩ ∧ LSt w g c' k (lab0 k) wr := by
        rcases hst.own.2 with ⟨_, h0⟩ | ⟨g, cap, cur, hv, _⟩
        · omega
        · simp at hv
          obtain ⟨rfl, rfl⟩ := hv
          exact ⟨g, rfl, hst.own, hst.bel⟩
      clear hst zr
      have d0 : decide ((k : Int) < (k : Int)) = false := decide_eq_false (by omega)
      go_wp2
      go_loopw [7] (fun i v => ∃ (q : Nat), q ≤ k ∧ i = .int .i64 (q : Int) ∧ LSt w g c' k (labs es k q) v) (fun i _ => k - (intOf i).toNat)
      case atStart => exact ⟨0, by omega, rfl, hL0⟩
      case round =>
        obtain ⟨q, hq, rfl, hL⟩ := hrel
        clear hL0
        by_cases hlt2 : q < k
        · have b2 : (q : Int) < (k : Int) := by omega
          have HL0 := hideIt hL
          clear hL
          generalize hls0 : labs es k q = ls0 at HL0
          have HQ : Hid (roundL ls0 es = labs es k (q + 1)) := by show _ = _; rw [← hls0]; rfl
          clear hls0
          go_wp2
          go_loopw [8] (fun i v => ∃ (p : Nat), p ≤ n ∧ i = .int .i64 (p : Int) ∧ LSt w g c' k (roundL ls0 (es.take p)) v) (fun i _ => n - (intOf i).toNat)
          case atStart => exact ⟨0, by omega, rfl, by rw [List.take_zero]; exact HL0.out⟩
          case round =>
            obtain ⟨p, hp, rfl, hL⟩ := hrel
            by_cases hlt3 : p < n
            · rcases HR.out with hz | ⟨b, off, rfl, hbl, hc⟩
              · omega
              · obtain ⟨f, hf⟩ : ∃ f, es[p]? = some f := ⟨es[p]'(by omega), List.getElem?_eq_getElem (by omega)⟩
                obtain ⟨c0, c1⟩ := hc p f hf
                have hfi := HE.out f (List.mem_of_getElem? hf)
                have b3 : (0 : Int) ≤ (p : Int) := by omega
                have b4 : (p : Int) < (n : Int) := by omega
                have b5 : (0 : Int) ≤ f.1 := hfi.1
                have b6 : f.1 < (k : Int) := by omega
                have b7 : (0 : Int) ≤ f.2 := by omega
                have b8 : f.2 < (k : Int) := hfi.2.2
                have e0 : wr.cell? ⟨b, off + p * 2, none⟩ = some (.int .i64 f.1) := by rw [hL.bel.cell hbl]; exact c0
                have e1 : wr.cell? ⟨b, off + p * 2 + 1, none⟩ = some (.int .i64 f.2) := by rw [hL.bel.cell hbl]; exact c1
                have x0 := hL.cell f.1.toNat (by omega)
                have x1 := hL.cell f.2.toNat (by omega)
                rw [show ((f.1.toNat : Nat) : Int) = f.1 by omega] at x0
                rw [show ((f.2.toNat : Nat) : Int) = f.2 by omega] at x1
                have f0 := hL.own.frozenAt f.1.toNat
                have f1 := hL.own.frozenAt f.2.toNat
                have HX := hideIt (roundL_snoc ls0 (es.take p) f)
                rw [← take_snocF es p f hf] at HX
                have hgl := (hL.own.lt g rfl).1
                have hgb : g ≠ b := by omega
                generalize hls : roundL ls0 (es.take p) = ls at hL x0 x1 HX
                clear hls hf hc c0 c1
                by_cases h1 : atI ls f.1 < atI ls f.2
                · have HS : Hid (LSt w g c' k (roundL ls0 (es.take (p + 1))) (wr.setCell ⟨g, f.2.toNat, none⟩ (.int .i64 (atI ls f.1)))) := by
                    show LSt _ _ _ _ _ _
                    rw [HX.out]; unfold relax; rw [if_pos h1]; exact hL.set _ _
                  have d1 : decide (atI ls f.1 < atI ls f.2) = true := decide_eq_true h1
                  have d2 : decide (atI ls f.2 < atI ls f.1) = false := decide_eq_false (by omega)
                  have e0' : (wr.setCell ⟨g, f.2.toNat, none⟩ (.int .i64 (atI ls f.1))).cell? ⟨b, off + p * 2, none⟩ = some (.int .i64 f.1) := by rw [set_other (fun e => hgb e.symm)]; exact e0
                  generalize atI ls f.1 = va at *
                  generalize atI ls f.2 = vb at *
                  clear hL HX
                  go_wp2
                  exact ⟨⟨p + 1, by omega, by go_num, HS.out⟩, by simp [intOf]; omega⟩
                · have d1 : decide (atI ls f.1 < atI ls f.2) = false := decide_eq_false h1
                  by_cases h2 : atI ls f.2 < atI ls f.1
                  · have HS : Hid (LSt w g c' k (roundL ls0 (es.take (p + 1))) (wr.setCell ⟨g, f.1.toNat, none⟩ (.int .i64 (atI ls f.2)))) := by
                      show LSt _ _ _ _ _ _
                      rw [HX.out]; unfold relax; rw [if_neg h1, if_pos h2]; exact hL.set _ _
                    have d2 : decide (atI ls f.2 < atI ls f.1) = true := decide_eq_true h2
                    generalize atI ls f.1 = va at *
                    generalize atI ls f.2 = vb at *
                    clear hL HX
                    go_wp2
                    exact ⟨⟨p + 1, by omega, by go_num, HS.out⟩, by simp [intOf]; omega⟩
                  · have HS : Hid (LSt w g c' k (roundL ls0 (es.take (p + 1))) wr) := by
                      show LSt _ _ _ _ _ _
                      rw [HX.out]; unfold relax; rw [if_neg h1, if_neg h2]; exact hL
                    have d2 : decide (atI ls f.2 < atI ls f.1) = false := decide_eq_false h2
                    generalize atI ls f.1 = va at *
                    generalize atI ls f.2 = vb at *
                    clear hL HX
                    go_wp2
                    exact ⟨⟨p + 1, by omega, by go_num, HS.out⟩, by simp [intOf]; omega⟩
            · rw [List.take_of_length_le (by omega), HQ.out] at hL
              go_wp2
              exact ⟨⟨q + 1, by omega, by go_num, hL⟩, by simp [intOf]; omega⟩
        · obtain rfl : q = k := by omega
          have HA := hideIt (show IAns w (labs es q q) (.returned (.slice (some ⟨g, 0, none⟩) q c')) wr from ⟨_, _, _, rfl, hL.own, hL.bel⟩)
          clear hL
          go_wp2
          go_ret
          exact HA.out

end Go.Proofs.YtgdlpmmbeacejaaDoor.O
namespace Go.Proofs.YtgdlpmmbeacejaaDoor
open Go.RowKit

/-- who has each of n vertices -/
def ownL (sh n : Nat) : List Int := (List.range n).map fun v : Nat => 1 + (v : Int).tmod (sh : Int)
theorem ownL_succ (sh n : Nat) : ownL sh (n + 1) = ownL sh n ++ [1 + (n : Int).tmod (sh : Int)] := by simp [ownL, List.range_succ]
theorem ownL_len (sh n : Nat) : (ownL sh n).length = n := by simp [ownL]
/-- a new head -/
def newH (nn sh : Nat) : Hd := ⟨(nn : Int), ownL sh nn, [], List.replicate sh (O.labs [] nn nn), List.replicate sh 0, 0, 0, 0, 0, 0, 0, 0, [], 0, []⟩
def zeroH : Hd := ⟨0, [], [], [], [], 0, 0, 0, 0, 0, 0, 0, [], 0, []⟩
abbrev nilS : Sx := ⟨none, 0, 0⟩
def zeroP : Hp := ⟨nilS, nilS, nilS, nilS, nilS, nilS⟩
abbrev hnC (N : Int) (aO : Option Addr) (v cO : Nat) (aL : Option Addr) (k cL : Nat) (aN : Option Addr) (sh : Nat) : Array Value := #[.int .i64 N, .slice aO v cO, .slice none 0 0, .slice aL k cL, .slice aN sh sh, .int .i64 0, .int .i64 0, .int .i64 0, .int .i64 0, .int .i64 0, .int .i64 0, .int .i64 0, .slice none 0 0, .int .i64 0, .slice none 0 0]
theorem BxA.grown {u v : World} {b : Nat} {t : TypeId} {cs : Array Value} {row : Option Nat} (h : BxA u b t cs) (hg : u.grownBy v row) (hr : row ≠ some b) : BxA v b t cs := by
  unfold BxA
  rw [hg.block b h.lt (fun e => hr e.symm)]
  exact h
theorem rowsNe {w : World} {B B' S S' n n' : Nat} {e e' : TypeId} {v v' : Value} {xs xs' : List Value} (h : w.ownsRow B e S v n xs) (h' : w.ownsRow B' e' S' v' n' xs') (hne : e ≠ e') (g : Nat) (hg : v.ownBlock = some g) : v'.ownBlock ≠ some g := by
  intro hg'
  rcases h.2 with ⟨rfl, _⟩ | ⟨g1, _, _, rfl, _, h1, _⟩
  · simp [Value.ownBlock] at hg
  · rcases h'.2 with ⟨rfl, _⟩ | ⟨g2, _, _, rfl, _, h2, _⟩
    · simp [Value.ownBlock] at hg'
    · simp [Value.ownBlock] at hg hg'
      subst hg
      subst hg'
      rw [h1] at h2
      simp at h2
      exact hne h2.2
/-- where HeadNew stands -/
structure HN (w : World) (nn sh k : Nat) (aL : Option Addr) (cL : Nat) (R : List Rw) (v : Nat) (aO : Option Addr) (cO : Nat) (u : World) : Prop where
  rs : BxA u w.heap.size 45 (hnC 0 none 0 0 none 0 0 none 0)
  hb : BxA u (w.heap.size + 1 + 1) 45 (hnC (nn : Int) aO v cO aL k cL (some ⟨w.heap.size + 1, 0, none⟩) sh)
  nu : u.ownsRow (w.heap.size + 1) 3 1 (.slice (some ⟨w.heap.size + 1, 0, none⟩) sh sh) sh (ic (List.replicate sh 0))
  fb : FB u (w.heap.size + 3) u.heap.size aL k cL R
  rt : rts R = List.replicate k (O.labs [] nn nn)
  ow : u.ownsRow (w.heap.size + 3) 3 1 (.slice aO v cO) v (ic (ownL sh v))
  ne : ∀ r ∈ R, (Value.slice aO v cO).ownBlock ≠ some r.g
  bl : Below w.heap.size w u
section
variable {w : World} {nn sh k : Nat} {aL : Option Addr} {cL : Nat} {R : List Rw} {v : Nat} {aO : Option Addr} {cO : Nat} {u u' : World}
theorem HN.lt (h : HN w nn sh k aL cL R v aO cO u) : w.heap.size + 3 ≤ u.heap.size := h.hb.lt
theorem HN.up (h : HN w nn sh k aL cL R v aO cO u) (b : Below u.heap.size u u') : HN w nn sh k aL cL R v aO cO u' := ⟨h.rs.up b, h.hb.up b, own_up h.nu b, h.fb.keep b, h.rt, own_up h.ow b, h.ne, h.bl.trans (b.mono h.bl.size)⟩
theorem HN.drew (h : HN w nn sh k aL cL R v aO cO u) : HN w nn sh k aL cL R v aO cO u.drew := h.up (Below.refl _ _).drew
theorem HN.boxL (h : HN w nn sh k aL cL R v aO cO u) {o : Obj} (hg : (u.alloc o).grownBy u' (Value.slice aL k cL).ownBlock) : BxA u' (w.heap.size + 1 + 1) 45 (hnC (nn : Int) aO v cO aL k cL (some ⟨w.heap.size + 1, 0, none⟩) sh) :=
  (h.hb.up (belA _ _)).grown hg fun e => by have := (h.fb.own.lt _ e).1; omega
theorem HN.boxO (h : HN w nn sh k aL cL R v aO cO u) {o : Obj} (hg : (u.alloc o).grownBy u' (Value.slice aO v cO).ownBlock) : BxA u' (w.heap.size + 1 + 1) 45 (hnC (nn : Int) aO v cO aL k cL (some ⟨w.heap.size + 1, 0, none⟩) sh) :=
  (h.hb.up (belA _ _)).grown hg fun e => by have := (h.ow.lt _ e).1; omega
theorem newsH (w : World) (x : Value) : ∀ j u, ([x] : List Value)[j]? = some u → (w.alloc (.cells #[x] 32)).cell? ((⟨w.heap.size, 0, none⟩ : Addr).add j) = some u := by
  intro j u hj
  rcases j with _ | j
  · simp at hj; subst hj; simp [Addr.add]
  · simp at hj
/-- labels behind the others -/
theorem HN.lab (h : HN w nn sh k aL cL R v aO cO u) {r : Rw} (hr : RwB u r) (hl : w.heap.size + 3 ≤ r.g) (hne : ∀ x ∈ R, x.g ≠ r.g) (hno : (Value.slice aO v cO).ownBlock ≠ some r.g) (ht : r.t = O.labs [] nn nn) {o : Obj} {g c : Nat}
    (ho : u'.ownsRow (w.heap.size + 3) 32 1 (.slice (some ⟨g, 0, none⟩) (k + 1) c) (k + 1) (rhs R ++ [r.hdr])) (hg : (u.alloc o).grownBy u' (Value.slice aL k cL).ownBlock) :
    HN w nn sh (k + 1) (some ⟨g, 0, none⟩) c (R ++ [r]) v aO cO (u'.setCell ⟨w.heap.size + 1 + 1, 3, none⟩ (.slice (some ⟨g, 0, none⟩) (k + 1) c)) := by
  obtain ⟨a7, c7, e7, F7⟩ := h.fb.app hr hl hne ho hg
  simp at e7
  obtain ⟨rfl, rfl⟩ := e7
  have hlt := h.lt
  have bA : Below u.heap.size u (u.alloc o) := belA _ _
  have row : ∀ {b : Nat}, (Value.slice aL k cL).ownBlock = some b → w.heap.size + 3 ≤ b := fun e => (h.fb.own.lt _ e).1
  have n0 : (Value.slice aL k cL).ownBlock ≠ some w.heap.size := fun e => by have := row e; omega
  have n1 : (Value.slice aL k cL).ownBlock ≠ some (w.heap.size + 1 + 1) := fun e => by have := row e; omega
  have n2 : (Value.slice aL k cL).ownBlock ≠ some (w.heap.size + 1) := fun e => by have := row e; omega
  have q1 := (h.hb.up bA).grown hg n1
  refine ⟨(((h.rs.up bA).grown hg n0).setO _ (by omega)), q1.set 3 _, ?_, ?_, ?_, ?_, ?_, ?_⟩
  · exact own_setOther (World.ownsRow.kept (own_up h.nu bA) hg (.inr fun e => n2 e.symm)) _ _ _ (by omega)
  · exact (F7.setLow (by omega) 3 _).hi (by simp [World.setCell]) (by simp [World.setCell])
  · rw [rts_snoc, h.rt, ht, List.replicate_succ']
  · refine own_lowA (World.ownsRow.kept (own_up h.ow bA) hg ?_) (by omega)
    cases hb : (Value.slice aO v cO).ownBlock with
    | none => exact .inl rfl
    | some b => exact .inr fun e => rowsNe h.ow h.fb.own (by decide) b hb e.symm
  · intro x hx
    rcases List.mem_append.1 hx with hx | hx
    · exact h.ne x hx
    · simp at hx
      subst hx
      exact hno
  · have b2 : Below w.heap.size w (u.alloc o) := h.bl.alloc h.bl.size o
    exact (b2.grown hg (by simp; omega) (fun j hj => by have := row hj; omega)).setCell (p := ⟨w.heap.size + 1 + 1, 3, none⟩) (by show w.heap.size ≤ w.heap.size + 1 + 1; omega) _
/-- one vertex more -/
theorem HN.own (h : HN w nn sh k aL cL R v aO cO u) {o : Obj} {g c : Nat} (ho : u'.ownsRow (w.heap.size + 3) 3 1 (.slice (some ⟨g, 0, none⟩) (v + 1) c) (v + 1) (ic (ownL sh v) ++ [.int .i64 (1 + (v : Int).tmod (sh : Int))])) (hg : (u.alloc o).grownBy u' (Value.slice aO v cO).ownBlock)
    (hG : (Value.slice aO v cO).ownBlock = some g ∨ g = u.heap.size + 1) :
    HN w nn sh k aL cL R (v + 1) (some ⟨g, 0, none⟩) c (u'.setCell ⟨w.heap.size + 1 + 1, 1, none⟩ (.slice (some ⟨g, 0, none⟩) (v + 1) c)) := by
  have hlt := h.lt
  have bA : Below u.heap.size u (u.alloc o) := belA _ _
  have row : ∀ {b : Nat}, (Value.slice aO v cO).ownBlock = some b → w.heap.size + 3 ≤ b := fun e => (h.ow.lt _ e).1
  have n0 : (Value.slice aO v cO).ownBlock ≠ some w.heap.size := fun e => by have := row e; omega
  have n1 : (Value.slice aO v cO).ownBlock ≠ some (w.heap.size + 1 + 1) := fun e => by have := row e; omega
  have n2 : (Value.slice aO v cO).ownBlock ≠ some (w.heap.size + 1) := fun e => by have := row e; omega
  have F1 := h.fb.keep bA
  have F2 : FB u' (w.heap.size + 3) u'.heap.size aL k cL R := by
    refine ⟨F1.len, World.ownsRow.kept F1.own hg ?_, fun g hg2 => Nat.lt_of_lt_of_le (F1.row g hg2) hg.size, Nat.le_refl _, fun r hr => ?_, F1.nod⟩
    · cases hb : (Value.slice aL k cL).ownBlock with
      | none => exact .inl rfl
      | some b => exact .inr fun e => rowsNe F1.own (own_up h.ow bA) (by decide) b hb e.symm
    · have := F1.ins r hr
      have h2 := this.1.grown hg (h.ne r hr)
      exact ⟨h2, this.2.1, h2.lt⟩
  refine ⟨(((h.rs.up bA).grown hg n0).setO _ (by omega)), ((h.hb.up bA).grown hg n1).set 1 _, ?_, ?_, h.rt, ?_, ?_, ?_⟩
  · exact own_setOther (World.ownsRow.kept (own_up h.nu bA) hg (.inr fun e => n2 e.symm)) _ _ _ (by omega)
  · exact (F2.setLow (by omega) 1 _).hi (by simp [World.setCell]) (by simp [World.setCell])
  · rw [ownL_succ, ic_snoc]
    exact own_lowA ho (by omega)
  · intro r hr e
    have e : g = r.g := by simpa [Value.ownBlock] using e
    rcases hG with h1 | h1
    · exact h.ne r hr (by rw [h1, e])
    · have := (h.fb.ins r hr).2.2
      omega
  · have b2 : Below w.heap.size w (u.alloc o) := h.bl.alloc h.bl.size o
    exact (b2.grown hg (by simp; omega) (fun j hj => by have := row hj; omega)).setCell (p := ⟨w.heap.size + 1 + 1, 1, none⟩) (by show w.heap.size ≤ w.heap.size + 1 + 1; omega) _
end
end Go.Proofs.YtgdlpmmbeacejaaDoor
