/- Marks in a new head's lists, and what stands of them. markHead and heldHead of a new head. The walk of FnExactHeadNew. Worlds compared, marked, held. Worlds marked and held. What WorldNew answers; where its loops stand. -/
import Derived.Test.YtgdlpmmbeacejaaDoorKHn13
import Derived.Test.YtgdlpmmbeacejaaDoorKICmp
import Derived.Test.YtgdlpmmbeacejaaDoorKHq13
import Derived.Test.YtgdlpmmbeacejaaDoorKHr13
import Derived.Test.YtgdlpmmbeacejaaDoorKFind6
namespace Go.Proofs.YtgdlpmmbeacejaaDoor
open Go.RowKit

abbrev tkZ : Value := .agg #[.int .i64 0, .int .i64 0, .int .i64 0, .int .i64 0, .int .i64 0, .int .i64 0, .int .i64 0, .slice none 0 0, .int .i64 0]
theorem markI13 {u : World} {base n c k0 : Nat} {a : Option Addr} {xs : List Value} (hn : n ≤ 1048576) (hk : k0 ≤ 10000000) (h : u.ownsRow base 3 1 (.slice a n c) n xs) :
    Calls Tryd.prog 18 #[.slice a n c, .int .i64 (k0 : Int)] u fun e v => e = .returned (.int .i64 ((k0 : Int) + (n : Int))) ∧ v.ownsRow base 3 1 (.slice a n c) n (ic (imarks k0 n)) ∧ u.grownBy v (Value.slice a n c).ownBlock := by
  rcases h.2 with ⟨hv, h0⟩ | ⟨g, cap, cur, hv, _⟩
  · simp at hv
    obtain ⟨rfl, rfl, rfl⟩ := hv
    refine (markIntS_zero none 0 (k0 : Int) u).mono fun e v ⟨he, hw⟩ => ?_
    subst hw
    exact ⟨by rw [he]; simp, World.ownsRow_nil _ _ _ _, grown_of_below (Below.refl _ _) _⟩
  · simp at hv
    obtain ⟨rfl, rfl⟩ := hv
    exact markIntS_any base g c n k0 xs hn hk u h
theorem mkR_g {k : Nat} {R : List Rw} {x : Rw} (h : x ∈ mkR k R) : ∃ r ∈ R, r.g = x.g := by
  induction R generalizing k with
  | nil => simp [mkR] at h
  | cons r R ih =>
    rw [mkR] at h
    rcases List.mem_cons.1 h with rfl | h
    · exact ⟨r, by simp, rfl⟩
    · obtain ⟨y, hy, e⟩ := ih h
      exact ⟨y, by simp [hy], e⟩
theorem own_tur {u v : World} {R : List Rw} {base e s n : Nat} {x : Value} {xs : List Value} (h : u.ownsRow base e s x n xs) (ht : Tur R u v) (hne : ∀ r ∈ R, x.ownBlock ≠ some r.g) : v.ownsRow base e s x n xs := by
  refine ⟨h.1, ?_⟩
  rcases h.2 with h3 | ⟨g, cap, cur, hv, hg, hcur, hrest⟩
  · exact .inl h3
  · have hgl := h.lt g (by rw [hv]; rfl)
    refine .inr ⟨g, cap, cur, hv, hg, ?_, hrest⟩
    rw [ht.block g hgl.2 fun r hr e => hne r hr (by rw [hv, e]; rfl)]
    exact hcur
end Go.Proofs.YtgdlpmmbeacejaaDoor
namespace Go.Proofs.YtgdlpmmbeacejaaDoor
open Go.RowKit

/-- a new head's lists, in blocks lo .. hi -/
structure HK (u : World) (lo hi : Nat) (aO : Option Addr) (v cO : Nat) (aL : Option Addr) (k cL : Nat) (aN : Option Addr) (R : List Rw) (os ns : List Int) : Prop where
  o : u.ownsRow lo 3 1 (.slice aO v cO) v (ic os)
  l : FB u lo hi aL k cL R
  n : u.ownsRow lo 3 1 (.slice aN k k) k (ic ns)
  oh : ∀ g, (Value.slice aO v cO).ownBlock = some g → g < hi
  nh : ∀ g, (Value.slice aN k k).ownBlock = some g → g < hi
  s : HSep (nwP aO v cO aL k cL aN) R
section
variable {u x : World} {lo hi l2 h2 : Nat} {aO : Option Addr} {v cO : Nat} {aL : Option Addr} {k cL : Nat} {aN : Option Addr} {R : List Rw} {os ns : List Int}
theorem HK.rng (h : HK u lo hi aO v cO aL k cL aN R os ns) (hr : Rng l2 h2 u x) (ho : hi ≤ l2 ∨ h2 ≤ lo) : HK x lo hi aO v cO aL k cL aN R os ns :=
  ⟨own_rng h.o hr (fun g hg => by have h1 := h.oh g hg; have h2 := (h.o.lt g hg).1; omega), h.l.rng hr ho, own_rng h.n hr (fun g hg => by have h1 := h.nh g hg; have h2 := (h.n.lt g hg).1; omega), h.oh, h.nh, h.s⟩
theorem HK.up (h : HK u lo hi aO v cO aL k cL aN R os ns) (hb : Below u.heap.size u x) : HK x lo hi aO v cO aL k cL aN R os ns := h.rng (l2 := hi) (h2 := hi) (Rng.of_below hb) (.inl (Nat.le_refl _))
theorem gr_rng13 {w w' : World} {row : Option Nat} {lo b : Nat} (h : w.grownBy w' row) (h1 : ∀ g, row = some g → lo ≤ g ∧ g < b) : Rng lo b w w' :=
  ⟨h.os, h.tape, h.output, h.size, fun k hk ho => h.block k hk (fun e => by have := h1 k e.symm; omega)⟩
theorem Rng.trans13 {u v x : World} {lo b : Nat} (h : Rng lo b u v) (k : Rng lo b v x) : Rng lo b u x :=
  ⟨k.os.trans h.os, k.tape.trans h.tape, k.output.trans h.output, Nat.le_trans h.size k.size, fun j hj ho => (k.block j (Nat.lt_of_lt_of_le hj h.size) ho).trans (h.block j hj ho)⟩
theorem fb_grown {u x : World} {lo hi : Nat} {a : Option Addr} {n c : Nat} {R : List Rw} {v : Value} {m B : Nat} {xs : List Value} (h : FB u lo hi a n c R) (ho : u.ownsRow B 3 1 v m xs) (hg : u.grownBy x v.ownBlock) (hne : ∀ r ∈ R, v.ownBlock ≠ some r.g) : FB x lo hi a n c R := by
  refine ⟨h.len, World.ownsRow.kept h.own hg ?_, h.row, Nat.le_trans h.there hg.size, fun r hr => ⟨(h.ins r hr).1.grown hg (hne r hr), (h.ins r hr).2⟩, h.nod⟩
  cases hb : (Value.slice a n c).ownBlock with
  | none => exact .inl rfl
  | some b => exact .inr fun e => rowsNe h.own ho (by decide) b hb e.symm
theorem HK.mO (h : HK u lo hi aO v cO aL k cL aN R os ns) {os' : List Int} (ho : x.ownsRow lo 3 1 (.slice aO v cO) v (ic os')) (hg : u.grownBy x (Value.slice aO v cO).ownBlock) : HK x lo hi aO v cO aL k cL aN R os' ns ∧ Rng lo hi u x := by
  refine ⟨⟨ho, fb_grown h.l h.o hg h.s.orr, World.ownsRow.kept h.n hg ?_, h.oh, h.nh, h.s⟩, gr_rng13 hg fun g e => ⟨(h.o.lt g e).1, h.oh g e⟩⟩
  cases hb : (Value.slice aO v cO).ownBlock with
  | none => cases hc : (Value.slice aN k k).ownBlock with
    | none => exact .inl rfl
    | some c => exact .inr (by simp)
  | some b => exact .inr fun e => h.s.on b hb e
theorem HK.mN (h : HK u lo hi aO v cO aL k cL aN R os ns) {ns' : List Int} (ho : x.ownsRow lo 3 1 (.slice aN k k) k (ic ns')) (hg : u.grownBy x (Value.slice aN k k).ownBlock) : HK x lo hi aO v cO aL k cL aN R os ns' ∧ Rng lo hi u x := by
  refine ⟨⟨World.ownsRow.kept h.o hg ?_, fb_grown h.l h.n hg h.s.nr, ho, h.oh, h.nh, h.s⟩, gr_rng13 hg fun g e => ⟨(h.n.lt g e).1, h.nh g e⟩⟩
  cases hb : (Value.slice aO v cO).ownBlock with
  | none => exact .inl rfl
  | some b => exact .inr fun e => h.s.on b hb e.symm
theorem HK.mL (h : HK u lo hi aO v cO aL k cL aN R os ns) {q : Nat} (hF : FB x lo hi aL k cL (mkR q R)) (ht : Tur R u x) : HK x lo hi aO v cO aL k cL aN (mkR q R) os ns ∧ Rng lo hi u x := by
  refine ⟨⟨own_tur h.o ht h.s.orr, hF, own_tur h.n ht h.s.nr, h.oh, h.nh, ⟨h.s.on, fun r hr => ?_, fun r hr => ?_⟩⟩, ht.rng fun r hr => (h.l.ins r hr).2⟩
  · obtain ⟨y, hy, e⟩ := mkR_g hr
    rw [← e]
    exact h.s.orr y hy
  · obtain ⟨y, hy, e⟩ := mkR_g hr
    rw [← e]
    exact h.s.nr y hy
theorem BxA.rng {b : Nat} {t : TypeId} {cs : Array Value} (h : BxA u b t cs) (hr : Rng lo hi u x) (ho : hi ≤ b) : BxA x b t cs := by
  unfold BxA
  rw [hr.block b h.lt (.inr ho)]
  exact h

end
end Go.Proofs.YtgdlpmmbeacejaaDoor
namespace Go.Proofs.YtgdlpmmbeacejaaDoor
open Go.RowKit

theorem hnC_eq {n sh : Int} {aO : Option Addr} {v cO : Nat} {aL : Option Addr} {k cL : Nat} {aN : Option Addr} : hC (hnH n sh) (nwP aO v cO aL k cL aN) = hnC (hnH n sh).N aO v cO aL k cL aN k := by
  unfold hnH
  split <;> rfl
theorem lnS_rep (s : Nat) (l : List Int) : lnS (List.replicate s l) = s * l.length := by simp [lnS]
theorem hn_small {u : World} {B : Nat} {n sh : Int} {aO : Option Addr} {v cO : Nat} {aL : Option Addr} {k cL : Nat} {aN : Option Addr} {R : List Rw} (h : HOwn u B (hnH n sh) (nwP aO v cO aL k cL aN) R) : v ≤ 100 ∧ k ≤ 100 ∧ rn R ≤ 1000 := by
  have h1 := h.o.1
  have h2 := h.l.len
  have h3 := h.r
  rw [rn_lnS, h3]
  have h4 := congrArg List.length h3
  rw [rts_len] at h4
  rw [ic_len] at h1
  by_cases hc : (1 ≤ n ∧ n ≤ 12) ∧ 1 ≤ sh ∧ sh ≤ 3
  · obtain ⟨nn, rfl⟩ : ∃ nn : Nat, n = (nn : Int) := ⟨n.toNat, by omega⟩
    obtain ⟨s, rfl⟩ : ∃ s : Nat, sh = (s : Int) := ⟨sh.toNat, by omega⟩
    have hy : (1 ≤ nn ∧ nn ≤ 12) ∧ 1 ≤ s ∧ s ≤ 3 := by omega
    rw [(hn_yes hy).1] at h1 h4 ⊢
    have e1 : (ownL s nn).length = v * 1 := h1
    have e2 : R.length = (List.replicate s (O.labs [] nn nn)).length := h4
    rw [ownL_len] at e1
    rw [List.length_replicate] at e2
    have e3 : lnS (newH nn s).lab = s * nn := by
      show lnS (List.replicate s (O.labs [] nn nn)) = _
      rw [lnS_rep, O.labs_len]
    rw [e3]
    have e4 : s * nn ≤ 3 * 12 := Nat.mul_le_mul hy.2.2 hy.1.2
    dsimp only at h2
    omega
  · rw [(hn_no hc).1] at h1 h4 ⊢
    have e1 : 0 = v * 1 := h1
    have e2 : R.length = 0 := h4
    have e3 : lnS zeroH.lab = 0 := rfl
    rw [e3]
    dsimp only at h2
    omega
theorem hn_fit {u : World} {B : Nat} {n sh : Int} {aO : Option Addr} {v cO : Nat} {aL : Option Addr} {k cL : Nat} {aN : Option Addr} {R : List Rw} (h : HOwn u B (hnH n sh) (nwP aO v cO aL k cL aN) R) : HFit (hnH n sh) (nwP aO v cO aL k cL aN) := by
  obtain ⟨h1, h2, h3⟩ := hn_small h
  have h4 := h.r
  rw [rn_lnS, h4] at h3
  exact ⟨by show v ≤ _; omega, Nat.zero_le _, by show k + _ ≤ _; omega, by show k ≤ _; omega, Nat.zero_le _, Nat.zero_le _⟩
theorem HOwn.hk {u : World} {B : Nat} {h : Hd} {aO : Option Addr} {v cO : Nat} {aL : Option Addr} {k cL : Nat} {aN : Option Addr} {R : List Rw} (q : HOwn u B h (nwP aO v cO aL k cL aN) R) (s : HSep (nwP aO v cO aL k cL aN) R) : HK u B u.heap.size aO v cO aL k cL aN R h.own h.nums := ⟨q.o, q.l, q.n, fun g hg => (q.o.lt g hg).2, fun g hg => (q.n.lt g hg).2, s⟩
theorem bupN {w u v : World} (h : Below w.heap.size w u) (hb : Below u.heap.size u v) : Below w.heap.size w v := h.trans (hb.mono h.size)
theorem BxA.d15 {u : World} {b : Nat} {t : TypeId} {v0 v1 v2 v3 v4 v5 v6 v7 v8 v9 v10 v11 v12 v13 v14 : Value} (x : BxA u b t #[v0, v1, v2, v3, v4, v5, v6, v7, v8, v9, v10, v11, v12, v13, v14]) : u.cell? ⟨b, 0, none⟩ = some v0 ∧ u.cell? ⟨b, 1, none⟩ = some v1 ∧ u.cell? ⟨b, 2, none⟩ = some v2 ∧ u.cell? ⟨b, 3, none⟩ = some v3 ∧ u.cell? ⟨b, 4, none⟩ = some v4 ∧ u.cell? ⟨b, 5, none⟩ = some v5 ∧ u.cell? ⟨b, 6, none⟩ = some v6 ∧ u.cell? ⟨b, 7, none⟩ = some v7 ∧ u.cell? ⟨b, 8, none⟩ = some v8 ∧ u.cell? ⟨b, 9, none⟩ = some v9 ∧ u.cell? ⟨b, 10, none⟩ = some v10 ∧ u.cell? ⟨b, 11, none⟩ = some v11 ∧ u.cell? ⟨b, 12, none⟩ = some v12 ∧ u.cell? ⟨b, 13, none⟩ = some v13 ∧ u.cell? ⟨b, 14, none⟩ = some v14 :=
  ⟨x.cell 0 rfl, x.cell 1 rfl, x.cell 2 rfl, x.cell 3 rfl, x.cell 4 rfl, x.cell 5 rfl, x.cell 6 rfl, x.cell 7 rfl, x.cell 8 rfl, x.cell 9 rfl, x.cell 10 rfl, x.cell 11 rfl, x.cell 12 rfl, x.cell 13 rfl, x.cell 14 rfl⟩

end Go.Proofs.YtgdlpmmbeacejaaDoor
namespace Go.Proofs.YtgdlpmmbeacejaaDoor
open Go.RowKit

theorem hidw {p : Prop} (h : p) : Hid p := h

end Go.Proofs.YtgdlpmmbeacejaaDoor
namespace Go.Proofs.YtgdlpmmbeacejaaDoor
open Go.RowKit

theorem Rng.wide {lo hi lo' hi' : Nat} {u v : World} (h : Rng lo hi u v) (h1 : lo' ≤ lo) (h2 : hi ≤ hi') : Rng lo' hi' u v := ⟨h.os, h.tape, h.output, h.size, fun k hk ho => h.block k hk (by omega)⟩
/-- a new world's lists, owned -/
structure WK (u : World) (lo hi h2 : Nat) (aO : Option Addr) (v cO : Nat) (aL : Option Addr) (k cL : Nat) (aN : Option Addr) (R : List Rw) (os ns : List Int) (aS : Option Addr) (nS cS : Nat) (aD : Option Addr) (nD cD : Nat) (aU : Option Addr) (nU cU : Nat) (cs ds us : List Value) : Prop where
  h : HK u lo hi aO v cO aL k cL aN R os ns
  s : u.ownsRow hi 76 7 (.slice aS nS cS) nS cs
  d : u.ownsRow hi 161 1 (.slice aD nD cD) nD ds
  b : u.ownsRow hi 4 1 (.slice aU nU cU) nU us
  sh : ∀ g, (Value.slice aS nS cS).ownBlock = some g → g < h2
  dh : ∀ g, (Value.slice aD nD cD).ownBlock = some g → g < h2
  bh : ∀ g, (Value.slice aU nU cU).ownBlock = some g → g < h2
  lo : lo ≤ hi
  le : hi ≤ h2
  there : h2 ≤ u.heap.size
theorem keptNe {u x : World} {B B' e e' s s' n n' : Nat} {a b : Value} {xs ys : List Value} (h : u.ownsRow B e s a n xs) (h' : u.ownsRow B' e' s' b n' ys) (hne : e ≠ e') (hg : u.grownBy x b.ownBlock) : x.ownsRow B e s a n xs := by
  refine World.ownsRow.kept h hg ?_
  cases hb : a.ownBlock with
  | none => cases hc : b.ownBlock with
    | none => exact .inl rfl
    | some c => exact .inr (by simp)
  | some g => exact .inr fun e => rowsNe h h' hne g hb e.symm
section
variable {u x : World} {lo hi h2 : Nat} {aO : Option Addr} {v cO : Nat} {aL : Option Addr} {k cL : Nat} {aN : Option Addr} {R : List Rw} {os ns : List Int} {aS : Option Addr} {nS cS : Nat} {aD : Option Addr} {nD cD : Nat} {aU : Option Addr} {nU cU : Nat} {cs ds us : List Value}
theorem WK.up (w : WK u lo hi h2 aO v cO aL k cL aN R os ns aS nS cS aD nD cD aU nU cU cs ds us) (hb : Below u.heap.size u x) : WK x lo hi h2 aO v cO aL k cL aN R os ns aS nS cS aD nD cD aU nU cU cs ds us :=
  ⟨w.h.up hb, own_up w.s hb, own_up w.d hb, own_up w.b hb, w.sh, w.dh, w.bh, w.lo, w.le, Nat.le_trans w.there hb.size⟩
theorem WK.mH (w : WK u lo hi h2 aO v cO aL k cL aN R os ns aS nS cS aD nD cD aU nU cU cs ds us) {R' : List Rw} {os' ns' : List Int} (hh : HK x lo hi aO v cO aL k cL aN R' os' ns') (hr : Rng lo hi u x) : WK x lo hi h2 aO v cO aL k cL aN R' os' ns' aS nS cS aD nD cD aU nU cU cs ds us ∧ Rng lo h2 u x :=
  ⟨⟨hh, own_rng w.s hr (fun g hg => by have := (w.s.lt g hg).1; omega), own_rng w.d hr (fun g hg => by have := (w.d.lt g hg).1; omega), own_rng w.b hr (fun g hg => by have := (w.b.lt g hg).1; omega), w.sh, w.dh, w.bh, w.lo, w.le, Nat.le_trans w.there hr.size⟩, hr.wide (Nat.le_refl _) w.le⟩
theorem WK.mS (w : WK u lo hi h2 aO v cO aL k cL aN R os ns aS nS cS aD nD cD aU nU cU cs ds us) {cs' : List Value} (ho : x.ownsRow hi 76 7 (.slice aS nS cS) nS cs') (hg : u.grownBy x (Value.slice aS nS cS).ownBlock) : WK x lo hi h2 aO v cO aL k cL aN R os ns aS nS cS aD nD cD aU nU cU cs' ds us ∧ Rng lo h2 u x := by
  have hr : Rng hi h2 u x := gr_rng13 hg fun g e => ⟨(w.s.lt g e).1, w.sh g e⟩
  exact ⟨⟨w.h.rng hr (.inl (Nat.le_refl _)), ho, keptNe w.d w.s (by decide) hg, keptNe w.b w.s (by decide) hg, w.sh, w.dh, w.bh, w.lo, w.le, Nat.le_trans w.there hr.size⟩, hr.wide w.lo (Nat.le_refl _)⟩
theorem WK.mB (w : WK u lo hi h2 aO v cO aL k cL aN R os ns aS nS cS aD nD cD aU nU cU cs ds us) {us' : List Value} (ho : x.ownsRow hi 4 1 (.slice aU nU cU) nU us') (hg : u.grownBy x (Value.slice aU nU cU).ownBlock) : WK x lo hi h2 aO v cO aL k cL aN R os ns aS nS cS aD nD cD aU nU cU cs ds us' ∧ Rng lo h2 u x := by
  have hr : Rng hi h2 u x := gr_rng13 hg fun g e => ⟨(w.b.lt g e).1, w.bh g e⟩
  exact ⟨⟨w.h.rng hr (.inl (Nat.le_refl _)), keptNe w.s w.b (by decide) hg, keptNe w.d w.b (by decide) hg, ho, w.sh, w.dh, w.bh, w.lo, w.le, Nat.le_trans w.there hr.size⟩, hr.wide w.lo (Nat.le_refl _)⟩
end
section
variable {u x : World} {lo hi h2 : Nat} {aO : Option Addr} {v cO : Nat} {aL : Option Addr} {k cL : Nat} {aN : Option Addr} {R : List Rw} {os ns : List Int} {aS : Option Addr} {nS cS : Nat} {aD : Option Addr} {nD cD : Nat} {aU : Option Addr} {nU cU : Nat} {cs ds us : List Value}
end
end Go.Proofs.YtgdlpmmbeacejaaDoor
namespace Go.Proofs.YtgdlpmmbeacejaaDoor
open Go.RowKit

/-- a new world's cells -/
abbrev wvC (M N : Int) (aO : Option Addr) (v cO : Nat) (aL : Option Addr) (k cL : Nat) (aN : Option Addr) (aS : Option Addr) (nS cS : Nat) (aD : Option Addr) (nD cD : Nat) (aU : Option Addr) (nU cU : Nat) : Array Value := #[.int .i64 M, .int .i64 N, .slice aO v cO, .slice none 0 0, .slice aL k cL, .slice aN k k, .int .i64 0, .int .i64 0, .int .i64 0, .int .i64 0, .int .i64 0, .int .i64 0, .int .i64 0, .slice none 0 0, .int .i64 0, .slice none 0 0, .slice aS nS cS, .slice aD nD cD, .slice aU nU cU, .slice none 0 0, .slice none 0 0, .slice none 0 0]
/-- a new shard's cells -/
abbrev nsC (i n : Int) : List Value := [.int .i64 i, .int .i64 n, .slice none 0 0, .int .i64 0, .bool false, .slice none 0 0, .slice none 0 0]
/-- the t-th new shard -/
def nsh (n : Int) (t : Nat) : Shv := ⟨(t : Int) + 1, n, 0, false⟩
theorem El.app {cs ds : List Value} {t : Nat} {x : Shv} (h : El cs t x) : El (cs ++ ds) t x := by
  have l0 := (List.getElem?_eq_some_iff.1 h.c6).1
  refine ⟨?_, ?_, ?_, ?_, ?_, ?_, ?_⟩ <;> rw [List.getElem?_append_left (by omega)]
  · exact h.c0
  · exact h.c1
  · exact h.c2
  · exact h.c3
  · exact h.c4
  · exact h.c5
  · exact h.c6
theorem El.snoc {cs : List Value} {k : Nat} {n : Int} (hl : cs.length = k * 7) (h : ∀ t < k, El cs t (nsh n t)) : ∀ t < k + 1, El (cs ++ nsC ((k : Int) + 1) n) t (nsh n t) := by
  intro t ht
  by_cases e : t = k
  · subst e
    refine ⟨?_, ?_, ?_, ?_, ?_, ?_, ?_⟩ <;> rw [List.getElem?_append_right (by omega)]
    · rw [show t * 7 - cs.length = 0 by omega]; rfl
    · rw [show t * 7 + 1 - cs.length = 1 by omega]; rfl
    · rw [show t * 7 + 2 - cs.length = 2 by omega]; rfl
    · rw [show t * 7 + 3 - cs.length = 3 by omega]; rfl
    · rw [show t * 7 + 4 - cs.length = 4 by omega]; rfl
    · rw [show t * 7 + 5 - cs.length = 5 by omega]; rfl
    · rw [show t * 7 + 6 - cs.length = 6 by omega]; rfl
  · exact (h t (by omega)).app
/-- how many shards a new world has -/
def wdS (n sh : Int) : Nat := if hnB n sh = true then sh.toNat else 0
def wdD (n sh : Int) : Nat := if hnB n sh = true then sh.toNat + 1 else 0
def wdM (n sh : Int) : Int := if hnB n sh = true then n else 0
/-- what WorldNew answers -/
def WnA (w : World) (n sh : Int) (e : Ending) (w' : World) : Prop := ∃ (aO : Option Addr) (v cO : Nat) (aL : Option Addr) (k cL : Nat) (aN : Option Addr) (R : List Rw) (aS : Option Addr) (cS : Nat) (aD : Option Addr) (cD : Nat) (aU : Option Addr) (cU hi : Nat) (cs : List Value),
  e = .returned (.tuple #[.agg (wvC (wdM n sh) (hnH n sh).N aO v cO aL k cL aN aS (wdS n sh) cS aD (wdD n sh) cD aU (wdD n sh) cU), .bool (hnB n sh)]) ∧
  WK w' w.heap.size hi w'.heap.size aO v cO aL k cL aN R (hnH n sh).own (hnH n sh).nums aS (wdS n sh) cS aD (wdD n sh) cD aU (wdD n sh) cU cs (List.replicate (wdD n sh) (.slice none 0 0)) (List.replicate (wdD n sh) (.bool true)) ∧
  rts R = (hnH n sh).lab ∧ (∀ t < wdS n sh, El cs t (nsh n t)) ∧ Below w.heap.size w w'
/-- where the loop of WorldNew stands -/
structure WS (w2 u : World) (b8 : Nat) (M N : Int) (aO : Option Addr) (v cO : Nat) (aL : Option Addr) (k cL : Nat) (aN : Option Addr) (aS : Option Addr) (nS cS : Nat) (aD : Option Addr) (nD cD : Nat) (aU : Option Addr) (nU cU : Nat) (cs ds us : List Value) : Prop where
  box : BxA u b8 53 (wvC M N aO v cO aL k cL aN aS nS cS aD nD cD aU nU cU)
  s : u.ownsRow w2.heap.size 76 7 (.slice aS nS cS) nS cs
  d : u.ownsRow w2.heap.size 161 1 (.slice aD nD cD) nD ds
  b : u.ownsRow w2.heap.size 4 1 (.slice aU nU cU) nU us
  bl : Below w2.heap.size w2 u
  hb : w2.heap.size ≤ b8
theorem rowBx {u : World} {B e s n b : Nat} {t : TypeId} {v : Value} {xs : List Value} {cs : Array Value} (h : u.ownsRow B e s v n xs) (x : BxA u b t cs) (hne : e ≠ t) : v.ownBlock ≠ some b := by
  intro hg
  rcases h.2 with ⟨rfl, _⟩ | ⟨g, _, cur, rfl, _, h1, _⟩
  · simp [Value.ownBlock] at hg
  · simp [Value.ownBlock] at hg
    subst hg
    unfold BxA at x
    rw [h1] at x
    simp at x
    exact hne x.2
theorem own_setBx {u : World} {B e s n b : Nat} {t : TypeId} {v : Value} {xs : List Value} {cs : Array Value} (h : u.ownsRow B e s v n xs) (x : BxA u b t cs) (hne : e ≠ t) (j : Nat) (y : Value) : (u.setCell ⟨b, j, none⟩ y).ownsRow B e s v n xs := by
  have hn := rowBx h x hne
  rcases h.2 with ⟨rfl, _⟩ | ⟨g, c, cur, rfl, hr⟩
  · exact ⟨h.1, .inl ⟨rfl, by rcases h.2 with ⟨_, h0⟩ | ⟨_, _, _, hv, _⟩; exact h0; simp at hv⟩⟩
  · exact own_setOther h b j y (by simpa [Value.ownBlock] using hn)
section
variable {w2 u u' : World} {b8 : Nat} {M N : Int} {aO : Option Addr} {v cO : Nat} {aL : Option Addr} {k cL : Nat} {aN aS : Option Addr} {nS cS : Nat} {aD : Option Addr} {nD cD : Nat} {aU : Option Addr} {nU cU : Nat} {cs ds us : List Value}
theorem WS.up (h : WS w2 u b8 M N aO v cO aL k cL aN aS nS cS aD nD cD aU nU cU cs ds us) (hb : Below u.heap.size u u') : WS w2 u' b8 M N aO v cO aL k cL aN aS nS cS aD nD cD aU nU cU cs ds us :=
  ⟨h.box.up hb, own_up h.s hb, own_up h.d hb, own_up h.b hb, h.bl.trans (hb.mono h.bl.size), h.hb⟩
/-- a shard more -/
theorem WS.shard (h : WS w2 u b8 M N aO v cO aL k cL aN aS nS cS aD nD cD aU nU cU cs ds us) {cs' : List Value} {g m c : Nat} (ho : u'.ownsRow w2.heap.size 76 7 (.slice (some ⟨g, 0, none⟩) m c) m cs') (hg : u.grownBy u' (Value.slice aS nS cS).ownBlock) :
    WS w2 (u'.setCell ⟨b8, 16, none⟩ (.slice (some ⟨g, 0, none⟩) m c)) b8 M N aO v cO aL k cL aN (some ⟨g, 0, none⟩) m c aD nD cD aU nU cU cs' ds us := by
  have x := h.box.grown hg (rowBx h.s h.box (by decide))
  have bb : Below w2.heap.size w2 u' := h.bl.grown hg h.bl.size (fun j hj => (h.s.lt j hj).1)
  exact ⟨x.set 16 _, own_setBx ho x (by decide) _ _, own_setBx (keptNe h.d h.s (by decide) hg) x (by decide) _ _, own_setBx (keptNe h.b h.s (by decide) hg) x (by decide) _ _, bb.setCell (p := ⟨b8, 16, none⟩) h.hb _, h.hb⟩
/-- a node more that is up -/
theorem WS.node (h : WS w2 u b8 M N aO v cO aL k cL aN aS nS cS aD nD cD aU nU cU cs ds us) {us' : List Value} {g m c : Nat} (ho : u'.ownsRow w2.heap.size 4 1 (.slice (some ⟨g, 0, none⟩) m c) m us') (hg : u.grownBy u' (Value.slice aU nU cU).ownBlock) :
    WS w2 (u'.setCell ⟨b8, 18, none⟩ (.slice (some ⟨g, 0, none⟩) m c)) b8 M N aO v cO aL k cL aN aS nS cS aD nD cD (some ⟨g, 0, none⟩) m c cs ds us' := by
  have x := h.box.grown hg (rowBx h.b h.box (by decide))
  have bb : Below w2.heap.size w2 u' := h.bl.grown hg h.bl.size (fun j hj => (h.b.lt j hj).1)
  exact ⟨x.set 18 _, own_setBx (keptNe h.s h.b (by decide) hg) x (by decide) _ _, own_setBx (keptNe h.d h.b (by decide) hg) x (by decide) _ _, own_setBx ho x (by decide) _ _, bb.setCell (p := ⟨b8, 18, none⟩) h.hb _, h.hb⟩
end
end Go.Proofs.YtgdlpmmbeacejaaDoor
