/- The program's placeTold, TreeOf and SizeOf. The program's replanted. Where a law stands that looks at fresh memory: forests in ranges of blocks of their own. ForestNew: what it answers, the program's and the specification's. The specification's ForestNew. The walk of FnExactForestNew. -/
import Derived.Test.YtcpffonenhhfoaaKIShare7
import Derived.Test.YtcpffonenhhfoaaKIJoin
import Derived.Test.YtcpffonenhhfoaaKHd7
import Derived.Test.YtcpffonenhhfoaaKRer
import Derived.Test.YtcpffonenhhfoaaKCmp6
import Derived.Test.YtcpffonenhhfoaaKTourE
namespace Go.Proofs.Ytcpffonenhhfoaa
open Go.RowKit

theorem someIn_any (us vs : List Int) (n : Nat) (a : Option Addr) (c : Nat) (hn : n ≤ 3000000) (nb : Nat) (b : Option Addr) (cb : Nat) (hnb : nb ≤ 3000000) (w : World) (h : Is w w.heap.size a n us) (hb : Is w w.heap.size b nb vs) :
    Calls Try.prog 31 #[.slice b nb cb, .slice a n c] w fun e w' => e = .returned (.bool (comB us vs)) ∧ Below w.heap.size w w' := by
  have HC := hideIt (haveCommon_any us vs n a c hn nb b cb hnb w h hb)
  clear h hb
  go_enter Try.func31, Try.ntmps31
  go_wp2_with (go_at_call 55; refine HC.out.mono ?_; rintro e w1 ⟨rfl, hb1⟩)
  go_ret
  exact ⟨rfl, hb1⟩
theorem comB_one (t : List Int) (v : Int) : comB t [v] = decide (v ∈ t) := by
  unfold comB
  rw [Bool.eq_iff_iff]
  simp

set_option maxHeartbeats 1000000 in
theorem placeTold_any (ts : List (List Int)) (v : Int) (hm : ∀ t ∈ ts, t.length ≤ 3000000) (n : Nat) (a : Option Addr) (c : Nat) (hn : n ≤ 3000000) (b : Option Addr) (cb : Nat) (w : World) (h : Ts w w.heap.size a n ts) (hb : Is w w.heap.size b 1 [v]) :
    Calls Try.prog 30 #[.slice a n c, .func (.func 31) #[.slice b 1 cb] #[]] w fun e w' => e = .returned (.int .i64 (trI ts v)) ∧ Below w.heap.size w w' := by
  have hlen := h.1
  have HA := hideIt h
  have HB := hideIt hb
  clear h hb
  go_enter Try.func30, Try.ntmps30
  go_wp2
  go_loopw [8] (fun i wr => ∃ k : Nat, k ≤ n ∧ i = .int .i64 (k : Int) ∧ Hid (∀ j, j < k → trP ts v j = false) ∧ Good w wr) (fun i _ => n - (intOf i).toNat)
  case atStart => exact ⟨0, by omega, rfl, fun j hj => by omega, Good.refl _⟩
  case round =>
    obtain ⟨k, hk, rfl, HK, hg⟩ := hrel
    by_cases hlt : k < n
    · rcases (HA.out.up hg).2 with hz | ⟨bb, off, rfl, hbl, hc⟩
      · omega
      · obtain ⟨t, ht⟩ : ∃ t, ts[k]? = some t := ⟨ts[k]'(by omega), List.getElem?_eq_getElem (by omega)⟩
        obtain ⟨x, cx, e0, iI, _⟩ := hc k t ht
        have b1 : (0 : Int) ≤ (k : Int) := by omega
        have b2 : (k : Int) < (n : Int) := by omega
        have HC := hideIt (someIn_any t [v] t.length x cx (hm t (List.mem_of_getElem? ht)) 1 b cb (by omega) wr iI (HB.out.up hg))
        rw [comB_one, ← trP_at (v := v) ht] at HC
        have HG := hideIt hg
        cases hp : trP ts v k with
        | true =>
          rw [hp] at HC
          have HV : Hid (trI ts v = (k : Int)) := firstN_yes (by omega) hp HK.out
          clear hc ht iI hp HK
          go_wp2_with (go_at_call 31; refine HC.out.mono ?_; rintro e w1 ⟨rfl, hb1⟩)
          go_ret
          exact ⟨by rw [HV.out]; rfl, HG.out.up hb1⟩
        | false =>
          rw [hp] at HC
          have HK2 : Hid (∀ j, j < k + 1 → trP ts v j = false) := fun j hj => by
            by_cases h7 : j = k
            · rw [h7]; exact hp
            · exact HK.out j (by omega)
          clear hc ht iI hp HK
          go_wp2_with (go_at_call 31; refine HC.out.mono ?_; rintro e w1 ⟨rfl, hb1⟩)
          exact ⟨⟨k + 1, by omega, by go_num, HK2, HG.out.up hb1⟩, by simp [intOf]; omega⟩
    · obtain rfl : k = n := by omega
      have HV : Hid (trI ts v = -1) := firstN_no (fun j hj => HK.out j (by omega))
      clear HK
      go_wp2
      go_ret
      exact ⟨by rw [HV.out]; rfl, hg⟩

set_option maxHeartbeats 1000000 in
theorem iTreeOf_any (N : Int) (ts : List (List Int)) (v : Int) (n : Nat) (a : Option Addr) (c : Nat) (hn : n + lnS ts ≤ 1048576) (w : World) (h : Ts w w.heap.size a n ts) :
    Calls Try.prog 12 #[.agg #[.int .i64 N, .slice a n c], .int .i64 v] w fun e w' => e = .returned (.int .i64 (treeO N ts v)) ∧ Below w.heap.size w w' := by
  have b0 : Good w (w.alloc (.cells #[.int .i64 N, .slice a n c] 27)) := (Good.refl w).alloc _
  have HF := iForestOk_any N ts n a c hn _ (h.up b0)
  have HB0 := hideIt b0
  by_cases hP : FP N ts
  · have HF2 := hideIt (HF.mono fun e u ⟨b, he, hb, hbl⟩ => (show e = Ending.returned (.bool true) ∧ Good (w.alloc (.cells #[.int .i64 N, .slice a n c] 27)) u from ⟨by rw [he, hb.2 hP], hbl⟩))
    have HT := hideIt (fun u (hu : Good (w.alloc (.cells #[.int .i64 N, .slice a n c] 27)) u) => placeTold_any ts v (fun t ht => by have := lnS_mem ht; omega) n a c (by omega) (some ⟨u.heap.size, 0, none⟩) 1 (u.alloc (.cells #[.int .i64 v] 3)) ((h.up b0).up (hu.alloc (.cells #[.int .i64 v] 3))) ⟨rfl, .inr ⟨u.heap.size, 0, rfl, by simp, fun j x hx => by
      rcases j with _ | j
      · simp at hx; subst hx; simp
      · simp at hx⟩⟩)
    have HV := hideIt (treeO_yes hP v)
    clear h b0 HF hP
    go_enter Try.func12, Try.ntmps12
    go_wp2_with (go_at_call 21; refine HF2.out.mono ?_; rintro e w1 ⟨rfl, hg1⟩; refine Hid.out ?_)
    refine (show ∀ {p : Prop}, p → Hid p from fun h => h) ?_
    have cB : w1.cell? ⟨w.heap.size, 1, none⟩ = some (.slice a n c) := by rw [hg1.cell (by simp)]; simp
    have HT2 := hideIt (HT.out w1 hg1)
    have HG1 := hideIt hg1
    clear hg1 HT HF2
    go_wp2_with (go_at_call 30; refine HT2.out.mono ?_; rintro e w2 ⟨rfl, hb2⟩)
    go_ret
    exact ⟨by rw [HV.out]; rfl, HB0.out.up ((HG1.out.alloc _).up hb2)⟩
  · have HF2 := hideIt (HF.mono fun e u ⟨b, he, hb, hbl⟩ => (show e = Ending.returned (.bool false) ∧ Good (w.alloc (.cells #[.int .i64 N, .slice a n c] 27)) u from ⟨by
      have : b = false := by
        cases b with
        | false => rfl
        | true => exact absurd (hb.1 rfl) hP
      rw [he, this], hbl⟩))
    have HV := hideIt (treeO_no hP v)
    clear h b0 HF hP
    go_enter Try.func12, Try.ntmps12
    go_wp2_with (go_at_call 21; refine HF2.out.mono ?_; rintro e w1 ⟨rfl, hg1⟩)
    go_ret
    exact ⟨by rw [HV.out]; rfl, HB0.out.up hg1⟩

set_option maxHeartbeats 1000000 in
theorem iSizeOf_any (N : Int) (ts : List (List Int)) (v : Int) (n : Nat) (a : Option Addr) (c : Nat) (hn : n + lnS ts ≤ 1048576) (w : World) (h : Ts w w.heap.size a n ts) :
    Calls Try.prog 13 #[.agg #[.int .i64 N, .slice a n c], .int .i64 v] w fun e w' => e = .returned (.int .i64 (sizeO N ts v)) ∧ Below w.heap.size w w' := by
  have b0 : Good w (w.alloc (.cells #[.int .i64 N, .slice a n c] 27)) := (Good.refl w).alloc _
  have HF := hideIt (iTreeOf_any N ts v n a c hn _ (h.up b0))
  have HB0 := hideIt b0
  rcases treeO_cases N ts v with ⟨k, t, hP, hk, hv, e⟩ | ⟨_, e⟩
  · rw [e] at HF
    have HV := hideIt (sizeO_yes e hk)
    have hkl := (List.getElem?_eq_some_iff.1 hk).1
    have hlen := h.1
    rcases (h.up b0).2 with hz | ⟨b, off, rfl, hbl, hc⟩
    · omega
    · obtain ⟨x, cx, e0, iI, _⟩ := hc k t hk
      have hfit := lnS_mem (List.mem_of_getElem? hk)
      have HVe := hideIt (fun u (hu : Good (w.alloc (.cells #[.int .i64 N, .slice (some ⟨b, off, none⟩) n c] 27)) u) => iVertsOf_any t t.length x cx (by omega) u (iI.up hu))
      have d1 : decide ((k : Int) < 0) = false := decide_eq_false (by omega)
      have b1 : (0 : Int) ≤ (k : Int) := by omega
      have b2 : (k : Int) < (n : Int) := by omega
      clear h b0 hc iI hP hv
      go_enter Try.func13, Try.ntmps13
      go_wp2_with (go_at_call 12; refine HF.out.mono ?_; rintro e w1 ⟨rfl, hg1⟩; refine Hid.out ?_)
      refine (show ∀ {p : Prop}, p → Hid p from fun h => h) ?_
      have hg1 : Good (w.alloc (.cells #[.int .i64 N, .slice (some ⟨b, off, none⟩) n c] 27)) w1 := hg1
      have cB : w1.cell? ⟨w.heap.size, 1, none⟩ = some (.slice (some ⟨b, off, none⟩) n c) := by rw [hg1.cell (by simp)]; simp
      have cE : w1.cell? ⟨b, off + k, none⟩ = some (.slice x t.length cx) := by rw [hg1.cell hbl]; exact e0
      have HT2 := hideIt (HVe.out w1 hg1)
      have HG1 := hideIt hg1
      clear hg1 HVe HF e0
      go_wp2_with (go_at_call 32; refine HT2.out.mono ?_; rintro e w2 ⟨a2, m2, c2, rfl, ho, hb2⟩)
      have hm2 : (vsL t).length = m2 := by have := ho.1; rw [ic_len] at this; omega
      go_ret
      exact ⟨by rw [HV.out, hm2]; rfl, HB0.out.up (HG1.out.up hb2)⟩
  · rw [e] at HF
    have HV := hideIt (sizeO_no e)
    clear h b0
    go_enter Try.func13, Try.ntmps13
    go_wp2_with (go_at_call 12; refine HF.out.mono ?_; rintro e w1 ⟨rfl, hg1⟩)
    go_ret
    exact ⟨by rw [HV.out]; rfl, HB0.out.up hg1⟩
end Go.Proofs.Ytcpffonenhhfoaa
namespace Go.Proofs.Ytcpffonenhhfoaa
open Go.RowKit Go.Sort Go.Lib

theorem FB.setTyped {u : World} {lo hi : Nat} {a : Option Addr} {n c : Nat} {R : List Rw} (h : FB u lo hi a n c R) {x : Nat} {cs : Array Value} {fr : Nat × Nat} (hx : u.heap[x]? = some (.cells cs 27 fr)) (j : Nat) (v : Value) : FB (u.setCell ⟨x, j, none⟩ v) lo hi a n c R := by
  have hr : ∀ r, RwB u r → x ≠ r.g := fun r hr e => by
    obtain ⟨c2, h2⟩ := hr.blk
    rw [← e, hx] at h2
    simp at h2
  refine ⟨h.len, h.own.kept (grownSet u x j v) (.inr fun e => ?_), h.row, by simp [World.setCell]; exact h.there, fun r hr2 => ⟨(h.ins r hr2).1.grown (grownSet u x j v) (by simpa using hr r (h.ins r hr2).1), (h.ins r hr2).2⟩, h.nod⟩
  rcases h.own.2 with ⟨hv, _⟩ | ⟨g, cap, cur, hv, _, hg, _⟩
  · rw [hv] at e; simp [Value.ownBlock] at e
  · rw [hv] at e
    simp [Value.ownBlock] at e
    rw [e, hx] at hg
    simp at hg

/-- the world behind replanted's boxes -/
def rw4 (w : World) (N : Int) (a : Option Addr) (n c : Nat) (u v : Int) : World := (((w.alloc (.cells #[.int .i64 N, .slice a n c] 27)).alloc (.cells #[.int .i64 u, .int .i64 v] 44)).alloc (.cells #[.int .i64 0, .slice none 0 0] 27)).alloc (.cells #[.int .i64 u, .int .i64 v] 3)
theorem rw4_size (w : World) (N : Int) (a : Option Addr) (n c : Nat) (u v : Int) : (rw4 w N a n c u v).heap.size = w.heap.size + 4 := by simp [rw4]
theorem rw4_bel (w : World) (N : Int) (a : Option Addr) (n c : Nat) (u v : Int) : Good w (rw4 w N a n c u v) := ((((Good.refl w).alloc _).alloc _).alloc _).alloc _
theorem rw4_third (w : World) (N : Int) (a : Option Addr) (n c : Nat) (u v : Int) : (rw4 w N a n c u v).heap[w.heap.size + 2]? = some (.cells #[.int .i64 0, .slice none 0 0] 27 (0, 0)) := by
  unfold rw4
  rw [Below.heap_alloc _ _ _ (by simp)]
  have h := heap_alloc_new ((w.alloc (.cells #[.int .i64 N, .slice a n c] 27)).alloc (.cells #[.int .i64 u, .int .i64 v] 44)) (.cells #[.int .i64 0, .slice none 0 0] 27)
  rw [show ((w.alloc (.cells #[.int .i64 N, .slice a n c] 27)).alloc (.cells #[.int .i64 u, .int .i64 v] 44)).heap.size = w.heap.size + 2 by simp] at h
  exact h
/-- tours in the making behind these boxes -/
structure RSt (w W4 : World) (lo : Nat) (a : Option Addr) (m c : Nat) (R : List Rw) (u : World) : Prop where
  fb : FB u lo u.heap.size a m c R
  bel : Below lo w u
  low : ∀ g, (Value.slice a m c).ownBlock = some g → g < w.heap.size ∨ w.heap.size + 4 ≤ g
  box : ∀ k, w.heap.size ≤ k → k < w.heap.size + 4 → u.heap[k]? = W4.heap[k]?
  size : w.heap.size + 4 ≤ u.heap.size
theorem RSt.up {w W4 : World} {lo : Nat} {a : Option Addr} {m c : Nat} {R : List Rw} {u v : World} (h : RSt w W4 lo a m c R u) (hlo : lo ≤ w.heap.size) (hb : Below u.heap.size u v) : RSt w W4 lo a m c R v :=
  ⟨h.fb.keep hb, h.bel.trans (hb.mono (by have := h.size; omega)), h.low, fun k h1 h2 => (hb.block k (by have := h.size; omega)).trans (h.box k h1 h2), Nat.le_trans h.size hb.size⟩
theorem RSt.cell {w W4 : World} {lo : Nat} {a : Option Addr} {m c : Nat} {R : List Rw} {u : World} (h : RSt w W4 lo a m c R u) {k o : Nat} (h1 : w.heap.size ≤ k) (h2 : k < w.heap.size + 4) : u.cell? ⟨k, o, none⟩ = W4.cell? ⟨k, o, none⟩ := World.cell?_of_block (w := W4) (a := ⟨k, o, none⟩) (h.box k h1 h2)
theorem RSt.app {w W4 : World} {lo : Nat} {a : Option Addr} {m c : Nat} {R : List Rw} {u u' : World} (h : RSt w W4 lo a m c R u) (hlo : lo ≤ w.heap.size) {r : Rw} (hr : RwB u r) (hl : lo ≤ r.g) (hne : ∀ x ∈ R, x.g ≠ r.g) {o : Obj} {G cap : Nat}
    (ho : u'.ownsRow lo 50 1 (.slice (some ⟨G, 0, none⟩) (m + 1) cap) (m + 1) (rhs R ++ [r.hdr])) (hg : (u.alloc o).grownBy u' (Value.slice a m c).ownBlock) (hG : (Value.slice a m c).ownBlock = some G ∨ G = u.heap.size + 1) :
    RSt w W4 lo (some ⟨G, 0, none⟩) (m + 1) cap (R ++ [r]) u' := by
  obtain ⟨a', c', e, hF⟩ := h.fb.app hr hl hne ho hg
  simp at e
  obtain ⟨rfl, rfl⟩ := e
  have hs := h.size
  have hgs := hg.size
  simp at hgs
  refine ⟨hF, ?_, fun g e => ?_, fun k h1 h2 => ?_, by omega⟩
  · have hb0 : Below lo w (u.alloc o) := h.bel.alloc (by omega) o
    exact hb0.grown hg (by simp; omega) (fun j hj => (h.fb.own.lt j hj).1)
  · simp [Value.ownBlock] at e
    subst e
    rcases hG with hG | hG
    · exact h.low G hG
    · omega
  · rw [hg.block k (by simp; omega) (fun e => by have := h.low k e.symm; omega), Below.heap_alloc u o k (by omega)]
    exact h.box k h1 h2

theorem Ts.parts {w : World} {B b off n : Nat} {ts : List (List Int)} (h : Ts w B (some ⟨b, off, none⟩) n ts) (hn : 0 < n) : b < B := by
  rcases h.2 with h0 | ⟨b', off', hb, hl, _⟩
  · omega
  · simp at hb
    omega
/-- the tours that stay -/
def stay (ts : List (List Int)) (u v : Int) : List (List Int) := ts.filter fun t => !comB t [u, v]
theorem stay_take {ts : List (List Int)} {u v : Int} {k : Nat} {t : List Int} (h : ts[k]? = some t) : stay (ts.take (k + 1)) u v = stay (ts.take k) u v ++ if comB t [u, v] = true then [] else [t] := by
  unfold stay
  rw [take_snocF ts k t h, List.filter_append]
  cases hc : comB t [u, v] <;> simp [hc]

theorem newsV (w : World) (x : Value) : ∀ j u, ([x] : List Value)[j]? = some u → (w.alloc (.cells #[x] 50)).cell? ((⟨w.heap.size, 0, none⟩ : Addr).add j) = some u := by
  intro j u hj
  rcases j with _ | j
  · simp at hj; subst hj; simp [Addr.add]
  · simp at hj
/-- one list, laid anew -/
theorem laidOne7 {t : List Int} {x : Option Addr} {cx : Nat} (ht : t.length ≤ 3000000) {w : World} (h : Is w w.heap.size x t.length t) :
    Calls Try.prog 79 #[.slice (some ⟨w.heap.size, 0, none⟩) 1 1] (w.alloc (.cells #[.slice x t.length cx] 50)) fun e w' => ∃ g, e = .returned (.slice (some ⟨g, 0, none⟩) t.length t.length) ∧ w'.ownsRow (w.heap.size + 1) 3 1 (.slice (some ⟨g, 0, none⟩) t.length t.length) t.length (ic t) ∧ Below (w.heap.size + 1) (w.alloc (.cells #[.slice x t.length cx] 50)) w' := by
  have hb : Good w (w.alloc (.cells #[.slice x t.length cx] 50)) := (Good.refl w).alloc _
  have hP : PartsI (w.alloc (.cells #[.slice x t.length cx] 50)) w.heap.size [⟨x, t.length, cx, t⟩] := ⟨by simp, fun j p hp => by
    rcases j with _ | j
    · simp at hp
      subst hp
      exact ⟨by simp, h.up hb⟩
    · simp at hp⟩
  refine (laid_any _ _ 1 rfl (by omega) _ hP (by simp [qLen]; omega)).mono ?_
  rintro e w' ⟨g, m, he, ho, hb2⟩
  have hq : qAll [⟨x, t.length, cx, t⟩] = t := by simp [qAll]
  rw [hq] at ho
  have hm : m = t.length := by have := ho.1; rw [ic_len] at this; omega
  subst hm
  exact ⟨g, he, by simpa using ho, by simpa using hb2⟩

set_option maxRecDepth 100000 in
set_option maxHeartbeats 4000000 in
theorem replanted_any (N : Int) (ts : List (List Int)) (u v : Int) (n : Nat) (a : Option Addr) (c : Nat) (lo : Nat) (R0 : List Rw) (m : Nat) (a1 : Option Addr) (c1 : Nat) (hP : FP N ts) (hm0 : 0 < m) (hm : m ≤ 2)
    (hQ : FQ N (rts R0 ++ stay ts u v)) (w : World) (hlo : lo ≤ w.heap.size) (h : Ts w lo a n ts) (hR : FB w lo w.heap.size a1 m c1 R0) :
    Calls Try.prog 51 #[.agg #[.int .i64 N, .slice a n c], .agg #[.int .i64 u, .int .i64 v], .slice a1 m c1] w fun e w' => ∃ a' m' c' R, e = .returned (.agg #[.int .i64 N, .slice a' m' c']) ∧ FB w' lo w'.heap.size a' m' c' R ∧
      (rts R).Perm (rts R0 ++ stay ts u v) ∧ (rts R).Pairwise (fun s t => mnV s < mnV t) ∧ Below lo w w' := by
  obtain ⟨i0, hi, hz0, hz1, hz2⟩ := info_parts infoIT
  have hlen := h.1
  have hn12 : n ≤ 12 := by have := hP.2.2.1; omega
  have HB : Hid (∀ t ∈ ts, tB t = true) := fun t ht => (hP.q.1 t ht).1
  have HA := hideIt h
  have HW4 := hideIt (rw4_size w N a n c u v)
  have S0 : RSt w (rw4 w N a n c u v) lo a1 m c1 R0 (rw4 w N a n c u v) := ⟨hR.keep (rw4_bel w N a n c u v), (rw4_bel w N a n c u v).mono hlo, fun g hg => .inl (hR.row g hg), fun _ _ _ => rfl, by rw [rw4_size]; exact Nat.le_refl _⟩
  have HQ := hideIt hQ
  have HC : Hid (∀ {a' m' c' R x}, RSt w (rw4 w N a n c u v) lo a' m' c' R x → (x.cell? ⟨w.heap.size, 0, none⟩ = some (.int .i64 N) ∧ x.cell? ⟨w.heap.size, 1, none⟩ = some (.slice a n c)) ∧ Is x x.heap.size (some ⟨w.heap.size + 3, 0, none⟩) 2 [u, v]) := fun {a' m' c' R x} hx => by
    have hsz := hx.size
    refine ⟨⟨by rw [hx.cell (Nat.le_refl _) (by omega)]; simp [rw4, go_sem], by rw [hx.cell (Nat.le_refl _) (by omega)]; simp [rw4, go_sem]⟩, rfl, .inr ⟨w.heap.size + 3, 0, rfl, by omega, fun j y hy => ?_⟩⟩
    rw [hx.cell (by omega) (by omega)]
    rcases j with _ | _ | j
    · simp at hy; subst hy; simp [rw4, go_sem]
    · simp at hy; subst hy; simp [rw4, go_sem]
    · simp at hy
  clear h hR hQ hP
  go_enter Try.func51, Try.ntmps51
  go_wp2
  go_loopw [2, 18] (fun r i wr => ∃ (k m' c' : Nat) (a' : Option Addr) (R : List Rw), k ≤ n ∧ 0 < m' ∧ m' ≤ 2 + k ∧ i = .int .i64 (k : Int) ∧ r = .slice a' m' c' ∧ Hid (rts R = rts R0 ++ stay (ts.take k) u v) ∧ RSt w (rw4 w N a n c u v) lo a' m' c' R wr) (fun _ i _ => n - (intOf i).toNat)
  case atStart => exact ⟨0, m, c1, a1, R0, by omega, hm0, by omega, rfl, rfl, by show _ = _; simp [stay], S0⟩
  case round =>
    obtain ⟨k, m', c', a', R, hk, hm0', hmk, rfl, rfl, HR, hst⟩ := hrel
    clear S0
    obtain ⟨⟨q0, q1⟩, q2⟩ := HC.out hst
    by_cases hlt : k < n
    · obtain ⟨t, ht⟩ : ∃ t, ts[k]? = some t := ⟨ts[k]'(by omega), List.getElem?_eq_getElem (by omega)⟩
      rcases (HA.out.below hst.bel (Nat.le_refl _)).2 with hz | ⟨b, off, rfl, hbl, hc⟩
      · omega
      · obtain ⟨x, cx, e0, iI, _⟩ := hc k t ht
        have hsz := hst.size
        have hlo2 : lo ≤ wr.heap.size := by omega
        have hI := iI.mono hlo2
        have hl := tB_len (HB.out t (List.mem_of_getElem? ht))
        have b1 : (0 : Int) ≤ (k : Int) := by omega
        have b2 : (k : Int) < (n : Int) := by omega
        have HG := hideIt (someIn_any t [u, v] t.length x cx (by omega) 2 (some ⟨w.heap.size + 3, 0, none⟩) 2 (by omega) wr hI q2)
        have HST := hideIt hst
        have HTk := hideIt (stay_take (u := u) (v := v) ht)
        cases hcm : comB t [u, v] with
        | true =>
          rw [hcm] at HG
          have HR2 : Hid (rts R = rts R0 ++ stay (ts.take (k + 1)) u v) := by show _ = _; rw [HTk.out, HR.out, hcm]; simp
          clear hc ht iI hI hst hcm q2 HTk
          go_wp2_with (go_at_call 31; refine HG.out.mono ?_; rintro e w1 ⟨rfl, hb1⟩)
          exact ⟨⟨k + 1, m', c', a', R, by omega, by omega, by omega, by go_num, rfl, HR2, HST.out.up hlo hb1⟩, by simp [intOf]; omega⟩
        | false =>
          rw [hcm] at HG
          have HR2 : Hid (∀ r : Rw, r.t = t → rts (R ++ [r]) = rts R0 ++ stay (ts.take (k + 1)) u v) := fun r hr => by rw [rts_snoc, HTk.out, HR.out, hcm, hr]; simp
          have HII := hideIt hI
          have HCc : Hid (∀ x', Below wr.heap.size wr x' → x'.cell? ⟨b, off + k, none⟩ = some (.slice x t.length cx)) := fun x' hx' => by rw [hx'.cell (by show b < _; omega)]; exact e0
          clear hc ht iI hI hst hcm q2 HTk
          go_wp2_with (go_at_call 31; refine HG.out.mono ?_; rintro e w1 ⟨rfl, hb1⟩; refine Hid.out ?_)
          refine (show ∀ {p : Prop}, p → Hid p from fun h => h) ?_
          have HS1 := hideIt (HST.out.up hlo hb1)
          obtain ⟨⟨q3, q4⟩, _⟩ := HC.out HS1.out
          have e1 := HCc.out w1 hb1
          have HL := hideIt (laidOne7 (cx := cx) (by omega : t.length ≤ 3000000) (HII.out.up hb1))
          have hsz1 := HS1.out.size
          clear HST hb1 HCc HG q0 q1 e0
          go_wp2_with (go_at_call 79; refine HL.out.mono ?_; rintro e w3 ⟨g, rfl, ho, hb3⟩; refine Hid.out ?_)
          refine (show ∀ {p : Prop}, p → Hid p from fun h => h) ?_
          have hb3' : Below w1.heap.size w1 w3 := ((Below.refl _ _).alloc (Nat.le_refl _) _).trans (hb3.mono (by omega))
          have HS3 := hideIt (HS1.out.up hlo hb3')
          have HRw := hideIt (RwB.of_own ho)
          have hgl := (ho.lt g rfl).1
          have hsz3 := HS3.out.size
          have HFr : Hid (∀ x ∈ R, x.g ≠ g) := fun x hx e => by have := (HS1.out.fb.ins x hx).2.2; omega
          clear ho hb3 hb3' HS1 HL q3 q4 e1
          go_wp2_with (at_builtin; refine wpList_append_lies _ rfl _ _ 25 rfl lo 50 i0 _ 1 24 Try.underlying25 hi hz0 hz1 hz2 rfl (by decide) _ _ _ rfl (HS3.out.fb.own.alloc _) ⟨w3.heap.size, 0, none⟩ 1 1 [.slice (some ⟨g, 0, none⟩) t.length t.length] rfl rfl (newsV w3 _) (by intro y hy; simp at hy; subst hy; rfl) (by omega) (by unfold maxLen; omega) (by omega) (by simp; omega) (w3.heap.size + 1) (by simp) ?_)
          intro g5 c5 w5 hown5 hg5 hG5 _
          have S5 := HS3.out.app hlo (r := ⟨g, t.length, t⟩) HRw.out (by show lo ≤ g; omega) HFr.out hown5 hg5 hG5
          clear hown5 hg5 hG5 HS3
          go_wp2
          exact ⟨⟨k + 1, m' + 1, c5, some ⟨g5, 0, none⟩, R ++ [⟨g, t.length, t⟩], by omega, by omega, by omega, by go_num, rfl, HR2.out _ rfl, S5⟩, by simp [intOf]; omega⟩
    · obtain rfl : k = n := by omega
      have HR2 : Hid (rts R = rts R0 ++ stay ts u v) := by show _ = _; rw [HR.out, List.take_of_length_le (by omega)]
      have hq := HQ.out
      rw [← HR2.out] at hq
      have HSo := hideIt (sortFT_any R (fun r hr => (hq.1 r.t (List.mem_map.2 ⟨r, hr, rfl⟩)).1) (by
        have h1 : (rts R).Pairwise fun s t => mnV s ≠ mnV t := hq.2.1.imp_of_mem fun hs ht hap => mn_apart (hq.1 _ hs).1 (hq.1 _ ht).1 hap
        unfold rts at h1
        rw [List.pairwise_map] at h1
        exact h1) lo m' a' c' hm0' (by omega) wr hst.fb)
      have HST := hideIt hst
      clear hq hst q2
      go_wp2_with (go_at_call 80; refine HSo.out.mono ?_; rintro e w2 ⟨rfl, R2, hF2, hp2, hs2, hg2⟩; refine Hid.out ?_)
      refine (show ∀ {p : Prop}, p → Hid p from fun h => h) ?_
      have hsz := HST.out.size
      have S2 : RSt w (rw4 w N a k c u v) lo a' m' c' R2 w2 := ⟨hF2, HST.out.bel.grown hg2 (by omega) (fun j hj => (HST.out.fb.own.lt j hj).1), HST.out.low, fun j h1 h2 => by
        rw [hg2.block j (by omega) (fun e => by have := HST.out.low j e.symm; omega)]
        exact HST.out.box j h1 h2, Nat.le_trans hsz hg2.size⟩
      obtain ⟨⟨q3, q4⟩, _⟩ := HC.out S2
      have f6 : w2.heap[w.heap.size + 2]? = some (.cells #[.int .i64 0, .slice none 0 0] 27 (0, 0)) := by
        rw [S2.box _ (by omega) (by omega)]
        exact rw4_third w N a k c u v
      have f7 := frozen_of_row w2 (w.heap.size + 2) 0 _ _ f6
      have f8 := frozen_of_row w2 (w.heap.size + 2) 1 _ _ f6
      have f9 := cell_of_row w2 (w.heap.size + 2) 0 _ _ _ f6
      have f10 := cell_of_row w2 (w.heap.size + 2) 1 _ _ _ f6
      have HF6 := hideIt f6
      have HS2 := hideIt S2
      have HP2 := hideIt hp2
      have HA2 := hideIt hs2
      clear HST hF2 hp2 hs2 hg2 S2 f6 HSo q0 q1
      simp at f9 f10
      go_wp2
      refine bodyPost_ret (v := .agg #[.int .i64 N, .slice a' m' c']) (by simp [results, Try.results51, go_sem, f9, f10]) rfl ⟨a', m', c', R2, rfl, ?_, ?_, HA2.out, ?_⟩
      · have h1 := HS2.out.fb.setTyped HF6.out 0 (.int .i64 N)
        have h2 := h1.setTyped (x := w.heap.size + 2) (cs := #[.int .i64 N, .slice none 0 0]) (fr := (0, 0)) (by rw [heap_setCell_same w2 (w.heap.size + 2) 0 _ 27 _ HF6.out]; rfl) 1 (.slice a' m' c')
        exact h2.hi (by simp [World.setCell]) (by simp [World.setCell])
      · have h1 := HP2.out.map Rw.t
        show (R2.map Rw.t).Perm _
        rw [← HR2.out]
        exact h1
      · exact (HS2.out.bel.setCell (p := ⟨w.heap.size + 2, 0, none⟩) (by show lo ≤ w.heap.size + 2; omega) _).setCell (p := ⟨w.heap.size + 2, 1, none⟩) (by show lo ≤ w.heap.size + 2; omega) _
end Go.Proofs.Ytcpffonenhhfoaa
namespace Go.Proofs.Ytcpffonenhhfoaa
open Go.RowKit

theorem Good.set {w u : World} (h : Good w u) (b j : Nat) (v : Value) (hb : w.heap.size ≤ b) : Good w (u.setCell ⟨b, j, none⟩ v) := Below.setCell h (p := ⟨b, j, none⟩) hb v
theorem Box7.set {w : World} {b : Nat} {t : TypeId} {v0 v1 : Value} (h : Box7 w b t v0 v1) (u0 u1 : Value) : Box7 ((w.setCell ⟨b, 0, none⟩ u0).setCell ⟨b, 1, none⟩ u1) b t u0 u1 := by
  have h1 : Box7 (w.setCell ⟨b, 0, none⟩ u0) b t u0 v1 := by
    unfold Box7
    rw [heap_setCell_same w b 0 _ t u0 h]; rfl
  exact h1.set1 u1
theorem Box7.rng {u v : World} {b lo hi : Nat} {t : TypeId} {v0 v1 : Value} (h : Box7 u b t v0 v1) (hr : Rng lo hi u v) (ho : b < lo ∨ hi ≤ b) : Box7 v b t v0 v1 := by
  unfold Box7; rw [hr.block b h.lt ho]; exact h

/-- a forest that is ours: its box and its rows lie in blocks lo .. hi -/
structure OBox (u : World) (lo hi b : Nat) (M : Int) (a : Option Addr) (m c : Nat) (R : List Rw) : Prop where
  box : Box7 u b 27 (.int .i64 M) (.slice a m c)
  fb : FB u lo hi a m c R
  least : lo ≤ b
  most : b < hi
theorem OBox.rng {u v : World} {lo hi b l2 h2 : Nat} {M : Int} {a : Option Addr} {m c : Nat} {R : List Rw} (h : OBox u lo hi b M a m c R) (hr : Rng l2 h2 u v) (ho : hi ≤ l2 ∨ h2 ≤ lo) : OBox v lo hi b M a m c R :=
  ⟨h.box.rng hr (by have := h.least; have := h.most; omega), h.fb.rng hr ho, h.least, h.most⟩
theorem OBox.up {u v : World} {lo hi b : Nat} {M : Int} {a : Option Addr} {m c : Nat} {R : List Rw} (h : OBox u lo hi b M a m c R) (hb : Below u.heap.size u v) : OBox v lo hi b M a m c R :=
  ⟨h.box.up hb, h.fb.up hb, h.least, h.most⟩
theorem OBox.cells {u : World} {lo hi b : Nat} {M : Int} {a : Option Addr} {m c : Nat} {R : List Rw} (h : OBox u lo hi b M a m c R) : u.cell? ⟨b, 0, none⟩ = some (.int .i64 M) ∧ u.cell? ⟨b, 1, none⟩ = some (.slice a m c) := ⟨h.box.cell0, h.box.cell1⟩
theorem OBox.stored {u : World} {lo b : Nat} {M : Int} {a : Option Addr} {m c : Nat} {R : List Rw} {v0 v1 : Value} (hb : Box7 u b 27 v0 v1) (hl : lo ≤ b) (ho : FB u lo u.heap.size a m c R) :
    OBox ((u.setCell ⟨b, 0, none⟩ (.int .i64 M)).setCell ⟨b, 1, none⟩ (.slice a m c)) lo ((u.setCell ⟨b, 0, none⟩ (.int .i64 M)).setCell ⟨b, 1, none⟩ (.slice a m c)).heap.size b M a m c R := by
  have hb' := hb.set (.int .i64 M) (.slice a m c)
  have h1 := ho.setTyped hb 0 (.int .i64 M)
  have h2 := h1.setTyped (x := b) (cs := #[.int .i64 M, v1]) (fr := (0, 0)) (by rw [heap_setCell_same u b 0 _ 27 _ hb]; rfl) 1 (.slice a m c)
  exact ⟨hb', h2.hi (by simp [World.setCell]) (by simp [World.setCell]), hl, hb'.lt⟩
theorem OBox.laid {u : World} {lo : Nat} {M : Int} {a : Option Addr} {m c : Nat} {R : List Rw} (hl : lo ≤ u.heap.size) (ho : FB u lo u.heap.size a m c R) :
    OBox (u.alloc (.cells #[.int .i64 M, .slice a m c] 27)) lo (u.alloc (.cells #[.int .i64 M, .slice a m c] 27)).heap.size u.heap.size M a m c R :=
  ⟨Box7.new _ _ _ _ _ rfl, ho.keep ((Below.refl _ _).alloc (Nat.le_refl _) _), hl, by simp⟩
theorem OBox.mark {u v : World} {lo hi b : Nat} {M : Int} {a : Option Addr} {m c : Nat} {R R' : List Rw} (h : OBox u lo hi b M a m c R) (hF : FB v lo hi a m c R') (ht : Tur R u v) : OBox v lo hi b M a m c R' ∧ Rng lo hi u v := by
  refine ⟨⟨?_, hF, h.least, h.most⟩, ht.rng fun r hr => (h.fb.ins r hr).2⟩
  have hbx := h.box
  unfold Box7 at hbx ⊢
  rw [ht.block b h.box.lt (fun r hr e => by
    obtain ⟨c2, h2⟩ := ((h.fb.ins r hr).1).blk
    rw [← e, hbx] at h2
    simp at h2)]
  exact hbx

/-- a forest that is only read, below hi -/
structure TBox (u : World) (hi b : Nat) (M : Int) (a : Option Addr) (m c : Nat) (ts : List (List Int)) : Prop where
  box : Box7 u b 27 (.int .i64 M) (.slice a m c)
  ts : Ts u hi a m ts
  most : b < hi
  there : hi ≤ u.heap.size
theorem Is.rng {u v : World} {B lo hi n : Nat} {a : Option Addr} {ls : List Int} (h : Is u B a n ls) (hr : Rng lo hi u v) (hB : B ≤ lo) (hs : B ≤ u.heap.size) : Is v B a n ls := h.below (hr.below (B := B) hB hs) (Nat.le_refl _)
theorem TBox.rng {u v : World} {hi b l2 h2 : Nat} {M : Int} {a : Option Addr} {m c : Nat} {ts : List (List Int)} (h : TBox u hi b M a m c ts) (hr : Rng l2 h2 u v) (ho : hi ≤ l2) : TBox v hi b M a m c ts :=
  ⟨h.box.rng hr (by have := h.most; omega), h.ts.below (hr.below (B := hi) ho h.there) (Nat.le_refl _), h.most, Nat.le_trans h.there hr.size⟩
theorem TBox.up {u v : World} {hi b : Nat} {M : Int} {a : Option Addr} {m c : Nat} {ts : List (List Int)} (h : TBox u hi b M a m c ts) (hb : Below u.heap.size u v) : TBox v hi b M a m c ts :=
  ⟨h.box.up hb, h.ts.below hb h.there, h.most, Nat.le_trans h.there hb.size⟩
theorem TBox.cells {u : World} {hi b : Nat} {M : Int} {a : Option Addr} {m c : Nat} {ts : List (List Int)} (h : TBox u hi b M a m c ts) : u.cell? ⟨b, 0, none⟩ = some (.int .i64 M) ∧ u.cell? ⟨b, 1, none⟩ = some (.slice a m c) := ⟨h.box.cell0, h.box.cell1⟩
theorem own_typed {u : World} {lo b j n : Nat} {v x : Value} {xs : List Value} {cs : Array Value} {fr : Nat × Nat} (h : u.ownsRow lo 50 1 v n xs) (hb : u.heap[b]? = some (.cells cs 27 fr)) : (u.setCell ⟨b, j, none⟩ x).ownsRow lo 50 1 v n xs := by
  refine World.ownsRow.kept h (grownSet u b j x) (.inr fun e => ?_)
  rcases h.2 with ⟨rfl, _⟩ | ⟨g, cap, cur, rfl, _, hg, _⟩
  · simp [Value.ownBlock] at e
  · simp [Value.ownBlock] at e
    rw [e, hb] at hg
    simp at hg
theorem TBox.stored {u : World} {lo b : Nat} {M : Int} {a : Option Addr} {m c : Nat} {hs : List Value} {ts : List (List Int)} {v0 v1 : Value} (hb : Box7 u b 27 v0 v1) (ho : u.ownsRow lo 50 1 (.slice a m c) m hs) (hd : HdT u u.heap.size hs ts) (hn : ∀ v ∈ hs, HdN b v) :
    TBox ((u.setCell ⟨b, 0, none⟩ (.int .i64 M)).setCell ⟨b, 1, none⟩ (.slice a m c)) ((u.setCell ⟨b, 0, none⟩ (.int .i64 M)).setCell ⟨b, 1, none⟩ (.slice a m c)).heap.size b M a m c ts := by
  have hb' := hb.set (.int .i64 M) (.slice a m c)
  have h1 := own_typed (j := 0) (x := .int .i64 M) ho hb
  have h2 := own_typed (j := 1) (x := .slice a m c) h1 (b := b) (cs := #[.int .i64 M, v1]) (fr := (0, 0)) (by rw [heap_setCell_same u b 0 _ 27 _ hb]; rfl)
  have h3 := ((hd.set hn (.int .i64 M) (j := 0)).set hn (.slice a m c) (j := 1)).mono (C := ((u.setCell ⟨b, 0, none⟩ (.int .i64 M)).setCell ⟨b, 1, none⟩ (.slice a m c)).heap.size) (by simp [World.setCell])
  exact ⟨hb', h3.ts h2, hb'.lt, Nat.le_refl _⟩
theorem TBox.laid {u : World} {lo : Nat} {M : Int} {a : Option Addr} {m c : Nat} {hs : List Value} {ts : List (List Int)} (ho : u.ownsRow lo 50 1 (.slice a m c) m hs) (hd : HdT u u.heap.size hs ts) :
    TBox (u.alloc (.cells #[.int .i64 M, .slice a m c] 27)) (u.alloc (.cells #[.int .i64 M, .slice a m c] 27)).heap.size u.heap.size M a m c ts :=
  ⟨Box7.new _ _ _ _ _ rfl, (hd.ts ho).up ((Below.refl _ _).alloc (Nat.le_refl _) _), by simp, Nat.le_refl _⟩
theorem eqOT {u : World} {lo hi b hi' b' : Nat} {M : Int} {a a' : Option Addr} {m c m' c' : Nat} {R : List Rw} {ts : List (List Int)} (h : OBox u lo hi b M a m c R) (h' : TBox u hi' b' M a' m' c' ts) (hR : rts R = ts) (hm : m + lnS ts ≤ 1048576) :
    Calls Try.prog 15 #[.agg #[.int .i64 M, .slice a m c], .agg #[.int .i64 M, .slice a' m' c']] u fun e v => e = .returned (.bool true) ∧ Below u.heap.size u v := by
  have h1 := h.fb.ts
  rw [hR] at h1
  have e : m' = m := by rw [← h1.1, ← h'.ts.1]
  subst e
  exact eqForest_same M ts m' a a' c c' hm u h1 (h'.ts.mono h'.there)
theorem markOB {u : World} {lo hi b : Nat} {M : Int} {a : Option Addr} {m c : Nat} {R : List Rw} (h : OBox u lo hi b M a m c R) (k0 : Nat) (hm : m + rn R ≤ 1048576) (h1 : k0 ≤ 1000000) :
    Calls Try.prog 16 #[.agg #[.int .i64 M, .slice a m c], .int .i64 (k0 : Int)] u fun e v => e = .returned (.int .i64 ((k0 : Int) + (rn R : Int))) ∧ OBox v lo hi b M a m c (mkR k0 R) ∧ Rng lo hi u v :=
  (markForest_any M R lo hi m k0 a c hm h1 u h.fb).mono fun _ _ ⟨he, hF, ht⟩ => ⟨he, (h.mark hF ht).1, (h.mark hF ht).2⟩
theorem heldOB {u : World} {lo hi b : Nat} {M : Int} {a : Option Addr} {m c : Nat} {R : List Rw} (k0 : Nat) (h : OBox u lo hi b M a m c (mkR k0 R)) (hm : m + rn R ≤ 1048576) (h1 : k0 ≤ 1000000) :
    Calls Try.prog 17 #[.agg #[.int .i64 M, .slice a m c], .int .i64 (k0 : Int)] u fun e v => e = .returned (.int .i64 ((k0 : Int) + (rn R : Int))) ∧ Below u.heap.size u v :=
  heldForest_any M R lo hi m k0 a c hm h1 u h.fb

/-- any box stands behind a call -/
def Keep7 (u v : World) : Prop := ∀ b t x y, Box7 u b t x y → Box7 v b t x y
theorem Keep7.of {u v : World} (h : Below u.heap.size u v) : Keep7 u v := fun _ _ _ _ hb => hb.up h
theorem Keep7.nil {u v : World} (h : Keep7 u v) {b : Nat} (hb : Box7 u b 27 (.int .i64 0) (.slice none 0 0)) : Box7 v b 27 (.int .i64 0) (.slice none 0 0) := h _ _ _ _ hb
/-- none of the rows lies in a box that was there -/
def Away (u : World) (hs : List Value) : Prop := ∀ b, Box7 u b 27 (.int .i64 0) (.slice none 0 0) → ∀ v ∈ hs, HdN b v

theorem toEdge7_any (f : EdgeV) (w : World) :
    Calls Try.prog 24 #[.agg #[.int .i64 f.1, .int .i64 f.2]] w fun e w' => e = .returned (.agg #[.int .i64 f.1, .int .i64 f.2]) ∧ Below w.heap.size w w' := by
  go_enter Try.func24, Try.ntmps24
  go_wp2
  exact bodyPost_ret (v := .agg #[.int .i64 f.1, .int .i64 f.2]) (by simp [results, Try.results24, go_sem]) rfl ⟨rfl, (((Below.refl _ _).alloc (Nat.le_refl _) _).alloc (by simp) _).alloc (by simp; omega) _⟩
/-- a forest is made of what came in -/
theorem toForest_G (N : Int) (ts : List (List Int)) (n : Nat) (a : Option Addr) (c : Nat) (hn : n + lnS ts ≤ 1048576) {u0 u : World} (hf : Ts u0 u0.heap.size a n ts) (h : Good u0 u) :
    Calls Try.prog 20 #[.agg #[.int .i64 N, .slice a n c]] u fun e v => ∃ g R, e = .returned (.agg #[.int .i64 N, .slice (some ⟨g, 0, none⟩) n n]) ∧ FB v u0.heap.size v.heap.size (some ⟨g, 0, none⟩) n n R ∧ Hid (rts R = ts) ∧ Good u0 v ∧ Keep7 u v :=
  (toForest_any N ts n a c hn u (hf.up h)).mono fun _ _ ⟨g, R, he, ho, hr, hb⟩ => ⟨g, R, he, ho.lo h.size, hr, h.up hb, Keep7.of hb⟩
theorem toEdge_G7 (x : EdgeV) {u0 u : World} (h : Good u0 u) {B n : Nat} {aa : Option Addr} {R : List Rw} (ho : FB u B u.heap.size aa n n R) :
    Calls Try.prog 24 #[.agg #[.int .i64 x.1, .int .i64 x.2]] u fun e v => e = .returned (.agg #[.int .i64 x.1, .int .i64 x.2]) ∧ FB v B v.heap.size aa n n R ∧ Good u0 v ∧ Keep7 u v :=
  (toEdge7_any x u).mono fun _ _ ⟨he, hb⟩ => ⟨he, ho.keep hb, h.up hb, Keep7.of hb⟩
/-- what is asked of the specification -/
theorem ans_S {F : Nat} {N : Int} {ts : List (List Int)} {n : Nat} {x : EdgeV} {o : Option (List (List Int))}
    (H : ∀ (g : Nat) (w : World) (_ : Ts w w.heap.size (some ⟨g, 0, none⟩) n ts), Calls Try.prog F #[.agg #[.int .i64 N, .slice (some ⟨g, 0, none⟩) n n], .agg #[.int .i64 x.1, .int .i64 x.2]] w (RAns w N o))
    {u0 u : World} (h : Good u0 u) {B g : Nat} {R : List Rw} (ho : FB u B u.heap.size (some ⟨g, 0, none⟩) n n R) (hR : rts R = ts) :
    Calls Try.prog F #[.agg #[.int .i64 N, .slice (some ⟨g, 0, none⟩) n n], .agg #[.int .i64 x.1, .int .i64 x.2]] u fun e v => ∃ aw mw cw hs, e = .returned (.tuple #[.agg #[.int .i64 (if o.isSome then N else 0), .slice aw mw cw], .bool o.isSome]) ∧ (v.ownsRow u0.heap.size 50 1 (.slice aw mw cw) mw hs ∧ HdT v v.heap.size hs (o.getD [])) ∧ Good u0 v ∧ Keep7 u v ∧ Away u hs :=
  (H g u (hR ▸ ho.ts)).mono fun _ _ ⟨aw, mw, cw, hs, he, hw, hb⟩ => ⟨aw, mw, cw, hs, he, ⟨own_mono hw.1 h.size, hw.2.1⟩, h.up hb, Keep7.of hb, fun _ hbx v hv => (hw.2.2 v hv).ne hbx.lt⟩
/-- .. and of the program -/
theorem ans_I {F : Nat} {N : Int} {ts : List (List Int)} {n : Nat} {x : EdgeV} {o : Option (List (List Int))}
    (H : ∀ (g : Nat) (w : World) (_ : Ts w w.heap.size (some ⟨g, 0, none⟩) n ts), Calls Try.prog F #[.agg #[.int .i64 N, .slice (some ⟨g, 0, none⟩) n n], .agg #[.int .i64 x.1, .int .i64 x.2]] w (FAns w N o))
    {u0 u : World} (h : Good u0 u) {B g : Nat} {R : List Rw} (ho : FB u B u.heap.size (some ⟨g, 0, none⟩) n n R) (hR : rts R = ts) :
    Calls Try.prog F #[.agg #[.int .i64 N, .slice (some ⟨g, 0, none⟩) n n], .agg #[.int .i64 x.1, .int .i64 x.2]] u fun e v => ∃ aw mw cw R', e = .returned (.tuple #[.agg #[.int .i64 (if o.isSome then N else 0), .slice aw mw cw], .bool o.isSome]) ∧ FB v u0.heap.size v.heap.size aw mw cw R' ∧ Hid (rts R' = o.getD []) ∧ Good u0 v ∧ Keep7 u v :=
  (H g u (hR ▸ ho.ts)).mono fun _ _ ⟨aw, mw, cw, R', he, hw, hr, hb⟩ => ⟨aw, mw, cw, R', he, hw.lo h.size, hr, h.up hb, Keep7.of hb⟩

/-- the world behind the law's two boxes -/
def lw7 (w : World) (N : Int) (a : Option Addr) (n c : Nat) (x : EdgeV) : World := (w.alloc (.cells #[.int .i64 N, .slice a n c] 35)).alloc (.cells #[.int .i64 x.1, .int .i64 x.2] 42)
theorem lw7_size (w : World) (N : Int) (a : Option Addr) (n c : Nat) (x : EdgeV) : (lw7 w N a n c x).heap.size = w.heap.size + 2 := by simp [lw7]
/-- nothing of these has turned -/
def LG7 (w : World) (N : Int) (a : Option Addr) (n c : Nat) (x : EdgeV) (u : World) : Prop := Below (w.heap.size + 2) (lw7 w N a n c x) u
theorem LG7.start (w : World) (N : Int) (a : Option Addr) (n c : Nat) (x : EdgeV) : LG7 w N a n c x (lw7 w N a n c x) := Below.refl _ _
theorem LG7.size {w : World} {N : Int} {a : Option Addr} {n c : Nat} {x : EdgeV} {u : World} (h : LG7 w N a n c x u) : w.heap.size + 2 ≤ u.heap.size := by have := Below.size h; rw [lw7_size] at this; exact this
theorem LG7.up {w : World} {N : Int} {a : Option Addr} {n c : Nat} {x : EdgeV} {u v : World} (h : LG7 w N a n c x u) (hb : Below u.heap.size u v) : LG7 w N a n c x v := Below.trans h (hb.mono h.size)
theorem LG7.good {w : World} {N : Int} {a : Option Addr} {n c : Nat} {x : EdgeV} {u v : World} (h : LG7 w N a n c x u) (hb : Good u v) : LG7 w N a n c x v := h.up hb
theorem LG7.rng {w : World} {N : Int} {a : Option Addr} {n c : Nat} {x : EdgeV} {u v : World} {lo hi : Nat} (h : LG7 w N a n c x u) (hr : Rng lo hi u v) (hl : w.heap.size + 2 ≤ lo) : LG7 w N a n c x v := Below.trans h (hr.below hl h.size)
theorem LG7.below {w : World} {N : Int} {a : Option Addr} {n c : Nat} {x : EdgeV} {u : World} (h : LG7 w N a n c x u) : Below w.heap.size w u :=
  (((Below.refl w.heap.size w).alloc (Nat.le_refl _) _).alloc (by simp) _).trans (Below.mono h (by omega))
theorem LG7.ts {w : World} {N : Int} {a : Option Addr} {n c : Nat} {x : EdgeV} {u : World} {ts : List (List Int)} (h : LG7 w N a n c x u) (hf : Ts w w.heap.size a n ts) : Ts u u.heap.size a n ts := hf.up h.below
theorem LG7.cells {w : World} {N : Int} {a : Option Addr} {n c : Nat} {x : EdgeV} {u : World} (h : LG7 w N a n c x u) :
    (u.cell? ⟨w.heap.size, 0, none⟩ = some (.int .i64 N) ∧ u.cell? ⟨w.heap.size, 1, none⟩ = some (.slice a n c)) ∧ u.cell? ⟨w.heap.size + 1, 0, none⟩ = some (.int .i64 x.1) ∧ u.cell? ⟨w.heap.size + 1, 1, none⟩ = some (.int .i64 x.2) := by
  refine ⟨⟨?_, ?_⟩, ?_, ?_⟩
  · rw [Below.cell h (by show w.heap.size < _; omega)]; simp [lw7, go_sem]
  · rw [Below.cell h (by show w.heap.size < _; omega)]; simp [lw7, go_sem]
  · rw [Below.cell h (by show w.heap.size + 1 < _; omega)]; simp [lw7, go_sem]
  · rw [Below.cell h (by show w.heap.size + 1 < _; omega)]; simp [lw7, go_sem]
end Go.Proofs.Ytcpffonenhhfoaa
namespace Go.Proofs.Ytcpffonenhhfoaa
open Go.RowKit

/-- each vertex alone -/
def newT (n : Nat) : List (List Int) := (List.range n).map fun j : Nat => [(j : Int)]
theorem newT_len (n : Nat) : (newT n).length = n := by simp [newT]
theorem newT_succ (n : Nat) : newT (n + 1) = newT n ++ [[(n : Int)]] := by simp [newT, List.range_succ]
theorem newT_at {n k : Nat} (h : k < n) : (newT n)[k]? = some [(k : Int)] := by simp [newT, h]
def newO (n : Int) : Option (List (List Int)) := if 1 ≤ n ∧ n ≤ 12 then some (newT n.toNat) else none
theorem newO_yes {n : Nat} (h1 : 1 ≤ n) (h2 : n ≤ 12) : newO (n : Int) = some (newT n) := by unfold newO; rw [if_pos (by omega)]; simp
theorem newO_no {n : Int} (h : ¬ (1 ≤ n ∧ n ≤ 12)) : newO n = none := by unfold newO; rw [if_neg h]

theorem row_new (u : World) (x : Int) : RwB (u.alloc (.cells #[.int .i64 x] 3)) ⟨u.heap.size, 1, [x]⟩ := by
  have h0 := World.ownsRow_lit (base := u.heap.size) (e := 3) (size := 1) u #[.int .i64 x] 1 (Nat.le_refl _) (by unfold maxLen; omega) (by simp)
  exact RwB.of_own (t := [x]) h0

set_option maxHeartbeats 2000000 in
theorem iForestNew_any (n : Int) (w : World) : Calls Try.prog 10 #[.int .i64 n] w fun e w' => FAns w n (newO n) e w' := by
  have HI := hideIt vertsOk_any
  have W1 := Box7.new w 27 (.int .i64 0) (.slice none 0 0) _ rfl
  by_cases h1 : 1 ≤ n ∧ n ≤ 12
  · obtain ⟨N, rfl⟩ : ∃ N : Nat, n = (N : Int) := ⟨n.toNat, by omega⟩
    have r1 : decide (1 ≤ (N : Int) ∧ (N : Int) ≤ 12) = true := decide_eq_true h1
    have HO := hideIt (newO_yes (n := N) (by omega) (by omega))
    obtain ⟨i0, hi, hz0, hz1, hz2⟩ := info_parts infoIT
    have hmk : ∀ u : World, (Instr.makeSlice 25 (.int .i64 (N : Int)) (.int .i64 (N : Int))).run Try.prog u =
        .ok (.slice (some ⟨u.heap.size, 0, none⟩) N N) (u.alloc (.cells (madeCells #[.slice none 0 0] N) 50)) := fun u => by
      have h := run_make (P := Try.prog) u 25 50 i0 _ Try.underlying25 hi hz0 .i64 .i64 (N : Int) (N : Int) (by omega) (by omega) (by rw [hz2]; omega) (by omega)
      rw [Int.toNat_natCast] at h
      simpa [hz1, Value.cells] using h
    have F0 : FMk (w.alloc (.cells #[.int .i64 0, .slice none 0 0] 27)) N [] ((w.alloc (.cells #[.int .i64 0, .slice none 0 0] 27)).alloc (.cells (madeCells #[.slice none 0 0] N) 50)) :=
      ⟨⟨_, World.ownsRow_lit (base := (w.alloc (.cells #[.int .i64 0, .slice none 0 0] 27)).heap.size) (e := 50) (size := 1) _ (madeCells #[.slice none 0 0] N) N (Nat.le_refl _) (by unfold maxLen; omega) (by simp [madeCells]), by simp [rhs]⟩, by simp, List.Pairwise.nil, (Below.refl _ _).alloc (Nat.le_refl _) _⟩
    obtain ⟨V, hV⟩ : ∃ V, V = w.alloc (.cells #[.int .i64 0, .slice none 0 0] 27) := ⟨_, rfl⟩
    have hVs : V.heap.size = w.heap.size + 1 := by rw [hV]; simp
    have gV : Good w V := by rw [hV]; exact (Good.refl w).alloc _
    rw [← hV] at F0 W1
    rw [hV] at F0
    have hN12 : N ≤ 12 := by omega
    clear h1
    go_enter Try.func10, Try.ntmps10
    go_wp2_with (go_at_call 28; refine (HI.out _ _).mono ?_; rintro e w1 ⟨rfl, rfl⟩)
    go_loopw [13] (fun i wr => ∃ (k : Nat) (R : List Rw), k ≤ N ∧ i = .int .i64 (k : Int) ∧ Hid (R.length = k) ∧ Hid (rts R = newT k) ∧ FMk V N R wr) (fun i _ => N - (intOf i).toNat)
    case atStart => exact ⟨0, [], by omega, rfl, by show _ = _; rfl, by show _ = _; rfl, by rw [hV]; exact F0⟩
    case round =>
      obtain ⟨k, R, hk, rfl, HK, HR, hF⟩ := hrel
      clear F0 hmk hV
      have HF := hideIt hF
      obtain ⟨xs, hown, hxs⟩ := hF.xs
      have hl3 : xs.length = N * 1 := hown.1
      have hwz := (hown.lt V.heap.size rfl).2
      rw [hVs] at hown
      by_cases hlt : k < N
      · have b1 : (0 : Int) ≤ (k : Int) := by omega
        have b2 : (k : Int) < (N : Int) := by omega
        have hb : Below wr.heap.size wr (wr.alloc (.cells #[.int .i64 (k : Int)] 3)) := (Below.refl _ _).alloc (Nat.le_refl _) _
        have ho2 := hown.alloc (.cells #[.int .i64 (k : Int)] 3)
        have f0 := ho2.frozenAt k
        have x0 : (wr.alloc (.cells #[.int .i64 (k : Int)] 3)).cell? ⟨w.heap.size + 1, k, none⟩ = some (xs[k]'(by omega)) := by rw [ho2.cellAt k (by omega)]; exact List.getElem?_eq_getElem (by omega)
        have hA := HF.out.add (r := ⟨wr.heap.size, 1, [(k : Int)]⟩) (by have := HK.out; omega) hb (row_new wr _) (Nat.le_refl _)
        rw [HK.out, hVs] at hA
        have HA := hideIt hA
        have HR2 : Hid (rts (R ++ [⟨wr.heap.size, 1, [(k : Int)]⟩]) = newT (k + 1)) := by show _ = _; rw [rts_snoc, HR.out, newT_succ]
        clear ho2 hA hown hb hF hxs HR
        go_wp2
        exact ⟨⟨k + 1, _, by omega, by go_num, by show _ = _; rw [List.length_append, HK.out]; rfl, HR2, HA.out⟩, by simp [intOf]; omega⟩
      · obtain rfl : k = N := by omega
        have hFB := HF.out.fb HK.out
        rw [hVs] at hFB
        have bx := W1.up HF.out.bel
        have c0 := bx.cell0
        have c1 := bx.cell1
        have f0 := bx.frozen 0
        have f1 := bx.frozen 1
        have HF5 := hideIt ((hFB.setLow (x := w.heap.size) (by omega) 0 (.int .i64 (k : Int))).setLow (x := w.heap.size) (by omega) 1 (.slice (some ⟨w.heap.size + 1, 0, none⟩) k k))
        have HB5 : Hid (Below w.heap.size w ((wr.setCell ⟨w.heap.size, 0, none⟩ (.int .i64 (k : Int))).setCell ⟨w.heap.size, 1, none⟩ (.slice (some ⟨w.heap.size + 1, 0, none⟩) k k))) := ((gV.up HF.out.bel).setCell (p := ⟨w.heap.size, 0, none⟩) (Nat.le_refl _) _).setCell (p := ⟨w.heap.size, 1, none⟩) (Nat.le_refl _) _
        clear hF hown hxs hFB bx
        go_wp2
        exact bodyPost_ret (v := .tuple #[.agg #[.int .i64 (k : Int), .slice (some ⟨w.heap.size + 1, 0, none⟩) k k], .bool true]) (by simp [results, Try.results10, go_sem, c0, c1]) rfl ⟨_, k, k, R, by rw [HO.out]; rfl, (HF5.out.lo (by omega)).hi (by simp [World.setCell]) (by simp [World.setCell]), by rw [HO.out, HR.out]; rfl, HB5.out⟩
  · have r1 : decide (1 ≤ n ∧ n ≤ 12) = false := decide_eq_false h1
    have HO := hideIt (newO_no h1)
    have HB : Hid (Below w.heap.size w (((w.alloc (.cells #[.int .i64 0, .slice none 0 0] 27)).setCell ⟨w.heap.size, 0, none⟩ (.int .i64 0)).setCell ⟨w.heap.size, 1, none⟩ (.slice none 0 0))) := (((Below.refl _ w).alloc (Nat.le_refl _) _).setCell (p := ⟨w.heap.size, 0, none⟩) (Nat.le_refl _) _).setCell (p := ⟨w.heap.size, 1, none⟩) (Nat.le_refl _) _
    clear h1 W1
    go_enter Try.func10, Try.ntmps10
    go_wp2_with (go_at_call 28; refine (HI.out _ _).mono ?_; rintro e w1 ⟨rfl, rfl⟩)
    refine bodyPost_ret (v := .tuple #[.agg #[.int .i64 0, .slice none 0 0], .bool false]) (by simp [results, Try.results10, go_sem]) rfl (fans_no HO.out ?_)
    first | exact HB.out | exact (Below.refl _ w).alloc (Nat.le_refl _) _
end Go.Proofs.Ytcpffonenhhfoaa
namespace Go.Proofs.Ytcpffonenhhfoaa
open Go.RowKit

/-- tours in the making, behind a forest's box in block b -/
structure NSt (w9 : World) (N : Int) (a : Option Addr) (m c : Nat) (R : List Rw) (u : World) : Prop where
  box : Box7 u w9.heap.size 27 (.int .i64 N) (.slice a m c)
  fb : FB u (w9.heap.size + 1) u.heap.size a m c R
  bel : Below w9.heap.size w9 u
theorem newsS (w : World) (x : Value) : ∀ j u, ([x] : List Value)[j]? = some u → (w.alloc (.cells #[x] 50)).cell? ((⟨w.heap.size, 0, none⟩ : Addr).add j) = some u := by
  intro j u hj
  rcases j with _ | j
  · simp at hj; subst hj; simp [Addr.add]
  · simp at hj

set_option maxHeartbeats 2000000 in
theorem sForestNew_any (n : Int) (w : World) : Calls Try.prog 11 #[.int .i64 n] w fun e w' => FAns w n (newO n) e w' := by
  have HI := hideIt l01In_any
  have W1 := Box7.new w 27 (.int .i64 0) (.slice none 0 0) _ rfl
  by_cases h1 : 1 ≤ n ∧ n ≤ 12
  · obtain ⟨N, rfl⟩ : ∃ N : Nat, n = (N : Int) := ⟨n.toNat, by omega⟩
    have r1 : decide (1 ≤ (N : Int) ∧ (N : Int) ≤ 12) = true := decide_eq_true h1
    have HO := hideIt (newO_yes (n := N) (by omega) (by omega))
    obtain ⟨i0, hi, hz0, hz1, hz2⟩ := info_parts infoIT
    have N0 : NSt (w.alloc (.cells #[.int .i64 0, .slice none 0 0] 27)) (N : Int) none 0 0 [] ((w.alloc (.cells #[.int .i64 0, .slice none 0 0] 27)).alloc (.cells #[.int .i64 (N : Int), .slice none 0 0] 27)) := ⟨Box7.new _ _ _ _ _ rfl, FB.nil _ _, (Below.refl _ _).alloc (Nat.le_refl _) _⟩
    obtain ⟨V, hV⟩ : ∃ V, V = w.alloc (.cells #[.int .i64 0, .slice none 0 0] 27) := ⟨_, rfl⟩
    have hVs : V.heap.size = w.heap.size + 1 := by rw [hV]; simp
    have gV : Good w V := by rw [hV]; exact (Good.refl w).alloc _
    rw [← hV] at W1
    have hN12 : N ≤ 12 := by omega
    clear h1
    go_enter Try.func11, Try.ntmps11
    go_wp2_with (go_at_call 29; refine (HI.out _ _ _ _).mono ?_; rintro e w1 ⟨rfl, rfl⟩)
    go_loopw [5] (fun i wr => ∃ (k c1 : Nat) (a1 : Option Addr) (R : List Rw), k ≤ N ∧ i = .int .i64 (k : Int) ∧ Hid (rts R = newT k) ∧ NSt V (N : Int) a1 k c1 R wr) (fun i _ => N - (intOf i).toNat)
    case atStart => exact ⟨0, 0, none, [], by omega, rfl, by show _ = _; rfl, by rw [hV]; exact N0⟩
    case round =>
      obtain ⟨k, c1, a1, R, hk, rfl, HR, hst⟩ := hrel
      clear N0 hV
      have hbx := hst.box
      rw [hVs] at hbx
      by_cases hlt : k < N
      · have b1 : (0 : Int) ≤ (k : Int) := by omega
        have b2 : (k : Int) < (N : Int) := by omega
        have hb : Below wr.heap.size wr (wr.alloc (.cells #[.int .i64 (k : Int)] 3)) := (Below.refl _ _).alloc (Nat.le_refl _) _
        have c0 := hbx.cell1
        have HF := hideIt (hst.fb.keep hb)
        have HRw := hideIt (row_new wr (k : Int))
        have HST := hideIt hst
        have hsz := hbx.lt
        have HFr : Hid (∀ x ∈ R, x.g ≠ wr.heap.size) := fun x hx e => by have := (hst.fb.ins x hx).2.2; omega
        have HR2 : Hid (rts (R ++ [⟨wr.heap.size, 1, [(k : Int)]⟩]) = newT (k + 1)) := by show _ = _; rw [rts_snoc, HR.out, newT_succ]
        have HBx := hideIt (hbx.alloc (.cells #[.int .i64 (k : Int)] 3))
        have hFo := HF.out.own
        rw [hVs] at hFo
        have HFo := hideIt hFo
        clear hb hst hbx HR hFo
        go_wp2_with (at_builtin; refine wpList_append_lies _ rfl _ _ 25 rfl (w.heap.size + 1 + 1) 50 i0 _ 1 24 Try.underlying25 hi hz0 hz1 hz2 rfl (by decide) _ _ _ rfl (HFo.out.alloc _) ⟨wr.heap.size + 1, 0, none⟩ 1 1 [.slice (some ⟨wr.heap.size, 0, none⟩) 1 1] rfl rfl (by have := newsS (wr.alloc (.cells #[.int .i64 (k : Int)] 3)) (.slice (some ⟨wr.heap.size, 0, none⟩) 1 1); simpa using this) (by intro y hy; simp at hy; subst hy; rfl) (by omega) (by unfold maxLen; omega) (by omega) (by simp; omega) (wr.heap.size + 1 + 1) (by simp) ?_)
        intro g5 c5 w5 hown5 hg5 hG5 _
        rw [← hVs] at hown5
        obtain ⟨a7, c7, e7, F7⟩ := HF.out.app (r := ⟨wr.heap.size, 1, [(k : Int)]⟩) HRw.out (by show V.heap.size + 1 ≤ wr.heap.size; omega) HFr.out hown5 hg5
        simp at e7
        obtain ⟨rfl, rfl⟩ := e7
        have bx5 := (HBx.out.alloc (.cells #[.slice (some ⟨wr.heap.size, 0, none⟩) 1 1] 50)).grown hg5 (fun e => by have := (HF.out.own.lt _ e.symm).1; omega)
        have c5' := bx5.cell1
        have f5 := bx5.frozen 1
        have bx6 := bx5.set1 (.slice (some ⟨g5, 0, none⟩) (k + 1) c5)
        have F8 := (F7.setLow (x := w.heap.size + 1) (by omega) 1 (.slice (some ⟨g5, 0, none⟩) (k + 1) c5)).hi (by simp [World.setCell]) (Nat.le_refl _)
        have B8 : Below V.heap.size V (w5.setCell ⟨w.heap.size + 1, 1, none⟩ (.slice (some ⟨g5, 0, none⟩) (k + 1) c5)) := by
          have h1 := (HST.out.bel.alloc HST.out.bel.size (.cells #[.int .i64 (k : Int)] 3)).alloc (by have := HST.out.bel.size; simp; omega) (.cells #[.slice (some ⟨wr.heap.size, 0, none⟩) 1 1] 50)
          have h2 := h1.grown hg5 (by simp; omega) (fun j hj => by have := (HF.out.own.lt j hj).1; omega)
          exact h2.setCell (p := ⟨w.heap.size + 1, 1, none⟩) (by show V.heap.size ≤ w.heap.size + 1; omega) _
        have HN8 : Hid (NSt V (N : Int) (some ⟨g5, 0, none⟩) (k + 1) c5 (R ++ [⟨wr.heap.size, 1, [(k : Int)]⟩]) (w5.setCell ⟨w.heap.size + 1, 1, none⟩ (.slice (some ⟨g5, 0, none⟩) (k + 1) c5))) := ⟨by rw [hVs]; exact bx6, F8, B8⟩
        clear hown5 hg5 hG5 F7 F8 B8 bx5 bx6 HF HFo HBx HST
        go_wp2
        exact ⟨⟨k + 1, c5, some ⟨g5, 0, none⟩, _, by omega, by go_num, HR2, HN8.out⟩, by simp [intOf]; omega⟩
      · obtain rfl : k = N := by omega
        have q0 := hbx.cell0
        have q1 := hbx.cell1
        have bx := W1.up hst.bel
        have c0 := bx.cell0
        have c1' := bx.cell1
        have f0 := bx.frozen 0
        have f1 := bx.frozen 1
        have hF := hst.fb
        have HF5 := hideIt ((hF.setLow (x := w.heap.size) (by omega) 0 (.int .i64 (k : Int))).setLow (x := w.heap.size) (by omega) 1 (.slice a1 k c1))
        have HB5 : Hid (Below w.heap.size w ((wr.setCell ⟨w.heap.size, 0, none⟩ (.int .i64 (k : Int))).setCell ⟨w.heap.size, 1, none⟩ (.slice a1 k c1))) := ((gV.up hst.bel).setCell (p := ⟨w.heap.size, 0, none⟩) (Nat.le_refl _) _).setCell (p := ⟨w.heap.size, 1, none⟩) (Nat.le_refl _) _
        clear hst hbx bx hF
        go_wp2
        exact bodyPost_ret (v := .tuple #[.agg #[.int .i64 (k : Int), .slice a1 k c1], .bool true]) (by simp [results, Try.results11, go_sem, c0, c1']) rfl ⟨_, k, c1, R, by rw [HO.out]; rfl, (HF5.out.lo (by omega)).hi (by simp [World.setCell]) (by simp [World.setCell]), by rw [HO.out, HR.out]; rfl, HB5.out⟩
  · have r1 : decide (1 ≤ n ∧ n ≤ 12) = false := decide_eq_false h1
    have HO := hideIt (newO_no h1)
    have HB : Hid (Below w.heap.size w (((w.alloc (.cells #[.int .i64 0, .slice none 0 0] 27)).alloc (.cells #[.int .i64 n, .slice none 0 0] 27)))) := ((Below.refl _ w).alloc (Nat.le_refl _) _).alloc (by simp) _
    have HB2 : Hid (Below w.heap.size w ((((w.alloc (.cells #[.int .i64 0, .slice none 0 0] 27)).alloc (.cells #[.int .i64 n, .slice none 0 0] 27)).setCell ⟨w.heap.size, 0, none⟩ (.int .i64 0)).setCell ⟨w.heap.size, 1, none⟩ (.slice none 0 0))) := ((HB.out).setCell (p := ⟨w.heap.size, 0, none⟩) (Nat.le_refl _) _).setCell (p := ⟨w.heap.size, 1, none⟩) (Nat.le_refl _) _
    clear h1 W1
    go_enter Try.func11, Try.ntmps11
    go_wp2_with (go_at_call 29; refine (HI.out _ _ _ _).mono ?_; rintro e w1 ⟨rfl, rfl⟩)
    refine bodyPost_ret (v := .tuple #[.agg #[.int .i64 0, .slice none 0 0], .bool false]) (by simp [results, Try.results11, go_sem]) rfl (fans_no HO.out ?_)
    first | exact HB.out | exact HB2.out
end Go.Proofs.Ytcpffonenhhfoaa
namespace Go.Proofs.Ytcpffonenhhfoaa
open Go.RowKit

theorem OBox.tbox {u : World} {lo b : Nat} {M : Int} {a : Option Addr} {m c : Nat} {R : List Rw} {ts : List (List Int)} (h : OBox u lo u.heap.size b M a m c R) (hR : rts R = ts) : TBox u u.heap.size b M a m c ts := ⟨h.box, hR ▸ h.fb.ts, h.most, Nat.le_refl _⟩
theorem newO_small (n : Int) : ((newO n).getD []).length + lnS ((newO n).getD []) ≤ 1000 := by
  unfold newO
  split
  · have h : ∀ k, lnS (newT k) = k := fun k => by
      induction k with
      | zero => simp [newT, lnS]
      | succ k ih => rw [newT_succ, lnS_snoc, ih]; rfl
    simp only [Option.getD_some, newT_len, h]
    omega
  · simp [lnS]

set_option maxRecDepth 100000 in
set_option maxHeartbeats 4000000 in
theorem fnExactForestNew.walk (n : Int) (_hn : (Lit.int .i64 n).wf = true) (w : World) :
    Calls Try.prog 4 #[.int .i64 n] w fun e w' => e = .returned (.bool true) ∧ Below w.heap.size w w' := by
  have HDs := hideIt (fun u => (sForestNew_any n u).mono fun e v ⟨a, m, c, R, h1, h2, h3, h4⟩ => (show ∃ a m c R, e = Ending.returned (.tuple #[.agg #[.int .i64 (if (newO n).isSome then n else 0), .slice a m c], .bool (newO n).isSome]) ∧ FB v u.heap.size v.heap.size a m c R ∧ Hid (rts R = (newO n).getD []) ∧ Good u v from ⟨a, m, c, R, h1, h2, h3, h4⟩))
  have HDi := hideIt (fun u => (iForestNew_any n u).mono fun e v ⟨a, m, c, R, h1, h2, h3, h4⟩ => (show ∃ a m c R, e = Ending.returned (.tuple #[.agg #[.int .i64 (if (newO n).isSome then n else 0), .slice a m c], .bool (newO n).isSome]) ∧ FB v u.heap.size v.heap.size a m c R ∧ Hid (rts R = (newO n).getD []) ∧ Good u v from ⟨a, m, c, R, h1, h2, h3, h4⟩))
  have hgl := newO_small n
  generalize (if (newO n).isSome then n else 0) = M at *
  generalize (newO n).isSome = fl at *
  generalize (newO n).getD [] = gs at *
  have hff : (fl != fl) = false := by simp
  have HS0 := hideIt (HDs.out w)
  go_enter Try.func4, Try.ntmps4
  go_wp2_with (go_at_call 11; refine HS0.out.mono ?_; rintro e w1 ⟨aw, mw, cw, RW, rfl, FW, hrw, G1⟩; refine Hid.out ?_)
  refine (show ∀ {p : Prop}, p → Hid p from fun h => h) ?_
  have DW := (OBox.laid (M := M) G1.size FW).tbox hrw.out
  have G2 := G1.alloc (.cells #[.int .i64 M, .slice aw mw cw] 27)
  obtain ⟨u1, b1, e1, e2⟩ : ∃ u1 b1, u1 = w1.alloc (.cells #[.int .i64 M, .slice aw mw cw] 27) ∧ b1 = w1.heap.size := ⟨_, _, rfl, rfl⟩
  have HI1 := hideIt (HDi.out u1)
  clear HS0 FW G1
  go_upto_region 2 with fail
  rw [← e1] at DW G2 ⊢
  rw [← e2] at DW ⊢
  clear e1 e2
  go_wp2_with (go_at_call 10; refine HI1.out.mono ?_; rintro e w2 ⟨ag, mg, cg, RG, rfl, FG, hrg, G3⟩; refine Hid.out ?_)
  refine (show ∀ {p : Prop}, p → Hid p from fun h => h) ?_
  have DG := OBox.laid (M := M) G3.size FG
  have G3a := G3.alloc (.cells #[.int .i64 M, .slice ag mg cg] 27)
  have DW2 := DW.up G3a
  have G4 := G2.up G3a
  have hu1 := G2.size
  obtain ⟨u2, b2, e1, e2⟩ : ∃ u2 b2, u2 = w2.alloc (.cells #[.int .i64 M, .slice ag mg cg] 27) ∧ b2 = w2.heap.size := ⟨_, _, rfl, rfl⟩
  have hmg : mg + lnS gs ≤ 1000 := by rw [← FG.len, ← rts_len, hrg.out]; exact hgl
  have hrng : mg + rn RG ≤ 1000 := by rw [rn_lnS, hrg.out]; exact hmg
  clear HI1 FG G3 G3a DW G2
  go_upto_region 3 with fail
  rw [← e1] at DG DW2 G4 ⊢
  rw [← e2] at DG ⊢
  clear e1 e2
  have q0 := DG.cells.1
  have q1 := DG.cells.2
  have q2 := DW2.cells.1
  have q3 := DW2.cells.2
  have HE2 := hideIt (eqOT DG DW2 hrg.out (by omega))
  go_wp2_with (go_at_call 15; refine HE2.out.mono ?_; rintro e w3 ⟨rfl, hb3⟩; refine Hid.out ?_)
  refine (show ∀ {p : Prop}, p → Hid p from fun h => h) ?_
  have G5 := G4.up hb3
  have DG3 := DG.up hb3
  have DW3 := DW2.up hb3
  clear HE2 hb3 q0 q1 q2 q3 G4 DG DW2
  have q0 := DG3.cells.1
  have q1 := DG3.cells.2
  have HM3 := hideIt (markOB DG3 1 (by omega) (by omega))
  go_wp2_with (go_at_call 16; refine HM3.out.mono ?_; rintro e w4 ⟨rfl, DG4, hr4⟩; refine Hid.out ?_)
  refine (show ∀ {p : Prop}, p → Hid p from fun h => h) ?_
  have DW4 := DW3.rng hr4 (Nat.le_refl _)
  have G6 : Good w w4 := Below.trans G5 (hr4.below (B := w.heap.size) hu1 G5.size)
  clear HM3 hr4 q0 q1 G5 DG3 DW3
  have q0 := DG4.cells.1
  have q1 := DG4.cells.2
  have d4 : decide ((1 : Int) + (rn RG : Int) < 0) = false := decide_eq_false (by omega)
  have d5 : ((1 : Int) + (rn RG : Int) != (1 : Int) + (rn RG : Int)) = false := by simp
  have HH4 := hideIt (heldOB 1 DG4 (by omega) (by omega))
  go_wp2_with (go_at_call 17; refine HH4.out.mono ?_; rintro e w5 ⟨rfl, hb5⟩; refine Hid.out ?_)
  refine (show ∀ {p : Prop}, p → Hid p from fun h => h) ?_
  have G7 := G6.up hb5
  have DG5 := DG4.up hb5
  have DW5 := DW4.up hb5
  have HI5 := hideIt (HDi.out w5)
  clear HH4 hb5 q0 q1 G6 DG4 DW4
  go_wp2_with (go_at_call 10; refine HI5.out.mono ?_; rintro e w6 ⟨ah, mh, ch, RH, rfl, FH, hrh, G8⟩; refine Hid.out ?_)
  refine (show ∀ {p : Prop}, p → Hid p from fun h => h) ?_
  have DH := OBox.laid (M := M) G8.size FH
  have G8a := G8.alloc (.cells #[.int .i64 M, .slice ah mh ch] 27)
  have DW6 := DW5.up G8a
  have DG6 := DG5.up G8a
  have G9 := G7.up G8a
  have hmh : mh + lnS gs ≤ 1000 := by rw [← FH.len, ← rts_len, hrh.out]; exact hgl
  obtain ⟨u6, b6, e1, e2⟩ : ∃ u6 b6, u6 = w6.alloc (.cells #[.int .i64 M, .slice ah mh ch] 27) ∧ b6 = w6.heap.size := ⟨_, _, rfl, rfl⟩
  clear HI5 FH G8 G8a DW5 DG5 G7
  go_upto_region 14 with fail
  rw [← e1] at DH DW6 DG6 G9 ⊢
  rw [← e2] at DH ⊢
  clear e1 e2
  have q0 := DH.cells.1
  have q1 := DH.cells.2
  have q2 := DW6.cells.1
  have q3 := DW6.cells.2
  have HE6 := hideIt (eqOT DH DW6 hrh.out (by omega))
  go_wp2_with (go_at_call 15; refine HE6.out.mono ?_; rintro e w7 ⟨rfl, hb7⟩; refine Hid.out ?_)
  refine (show ∀ {p : Prop}, p → Hid p from fun h => h) ?_
  have G10 := G9.up hb7
  have DG7 := DG6.up hb7
  clear HE6 hb7 q0 q1 q2 q3 G9 DG6 DW6 DH
  have q0 := DG7.cells.1
  have q1 := DG7.cells.2
  have HH7 := hideIt (heldOB 1 DG7 (by omega) (by omega))
  go_wp2_with (go_at_call 17; refine HH7.out.mono ?_; rintro e w8 ⟨rfl, hb8⟩)
  go_ret
  exact ⟨rfl, G10.up hb8⟩
end Go.Proofs.Ytcpffonenhhfoaa
