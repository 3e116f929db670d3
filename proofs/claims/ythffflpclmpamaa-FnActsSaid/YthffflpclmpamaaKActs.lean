/- What l01Figure answers. Plain mathematics on numerals: no program is named here. What the specification's Decimal answers at every number: its numeral. Where the drawing of any disk stands. A list of files that comes in, as the walks want it. What the laws' own functions over acts answer. -/
import Derived.Test.YthffflpclmpamaaKSFiles
import Derived.Test.YthffflpclmpamaaKFigs
import Derived.WalkSpells
import Derived.WalkKit
import Derived.Lib.ItoaLen
import Derived.Laws.Concat
import Derived.Deep.DeepCutAuto
import Derived.ProofKit
import Derived.OpenShut
import Derived.ChangeOld
import Derived.ChangeArms
import Derived.Below
import Derived.Test.YthffflpclmpamaaKOrder
namespace Go.Proofs.Ythffflpclmpamaa
open Go.RowKit Figs

theorem l01Figure_any (x : Int) (h0 : 0 ≤ x) (h1 : x < 16) (w : World) :
    Calls Try.prog 50 #[.int .i64 x] w fun e w' => e = .returned (.int .u8 (figI x)) ∧ w' = w := by
  by_cases h : x < 10
  · have e : figI x = 48 + x := by unfold figI; rw [if_pos h]
    rw [e]
    go_enter Try.func50, Try.ntmps50
    go_wp2
    go_ret
    exact ⟨rfl, rfl⟩
  · have e : figI x = 97 + x - 10 := by unfold figI; rw [if_neg h]; omega
    rw [e]
    go_enter Try.func50, Try.ntmps50
    go_wp2
    go_ret
    exact ⟨rfl, rfl⟩

end Go.Proofs.Ythffflpclmpamaa
namespace Go.Proofs.Ythffflpclmpamaa.Dg
open Go.Lib (decDigits itoa nDigits)

/-- the figures of u that are still to be laid -/
def dg0 (u : Nat) : List UInt8 := if u = 0 then [] else decDigits u

theorem dg0_step (u : Nat) (h : u ≠ 0) : dg0 u = dg0 (u / 10) ++ [UInt8.ofNat (48 + u % 10)] := by
  unfold dg0
  rw [if_neg h]
  by_cases h1 : u < 10
  · rw [Go.Lib.decDigits_one h1, if_pos (by omega), Nat.mod_eq_of_lt h1]
    rfl
  · rw [if_neg (by omega), decDigits, dif_neg h1]

theorem dg0_pos (u : Nat) (h : u ≠ 0) : dg0 u = decDigits u := by unfold dg0; rw [if_neg h]

theorem dec_length (u : Nat) (h : u < 18446744073709551616) : (decDigits u).length ≤ 20 := by
  rw [Go.Lib.decDigits_length]; exact Go.Lib.nDigits_le20 u h

/-- a text of one byte -/
def one (b : UInt8) : ByteArray := ⟨#[b]⟩
theorem one_size (b : UInt8) : (one b).size = 1 := rfl
theorem one_app (b : UInt8) (S : ByteArray) : (one b ++ S).data.toList = b :: S.data.toList := by
  simp [one, ByteArray.data_append]
theorem one_app_size (b : UInt8) (S : ByteArray) : (one b ++ S).size = S.size + 1 := by
  have := congrArg List.length (one_app b S)
  simpa using this

end Go.Proofs.Ythffflpclmpamaa.Dg
namespace Go.Proofs.Ythffflpclmpamaa
open Go.RowKit Figs Dg
open Go.Lib (decDigits itoa)

theorem fig_dec (d : Nat) (h : d < 10) : fig d = UInt8.ofNat (48 + d) := by
  unfold fig figI
  rw [if_pos (by omega)]
  congr 1

theorem conv_one (w : World) (b : UInt8) (x : Int) (hx : (b.toNat : Int) = x) :
    (convert 22 9 (.slice (some ⟨w.heap.size, 0, none⟩) 1 1)).run Try.prog (w.alloc (.cells #[.int .u8 x] 5)) = .ok (.string (one b)) (w.alloc (.cells #[.int .u8 x] 5)) := by
  subst hx
  refine run_convert_bytes_back (P := Try.prog) _ 22 9 5 ⟨w.heap.size, 0, none⟩ 1 [b] Try.underlying22 Try.underlying5 Try.underlying9 ?_
  intro j hj
  match j, hj with
  | 0, _ => exact one_new _ _ _ 0 _ rfl

set_option maxRecDepth 100000 in
set_option maxHeartbeats 2000000 in
theorem sDecimal_pos (U : Nat) (h0 : 0 < U) (h1 : U ≤ 9223372036854775807) (w : World) :
    Calls Try.prog 35 #[.int .i64 (U : Int)] w fun e w' => e = .returned (.string ⟨(decDigits U).toArray⟩) ∧ Below w.heap.size w w' := by
  have hl := dec_length U (by omega)
  have d1 : ((U : Int) == 0) = false := by simp; omega
  have d2 : decide ((U : Int) < 0) = false := by simp
  go_enter Try.func35, Try.ntmps35
  go_wp2
  go_loopw [0, 4] (fun n s wr => ∃ (u : Nat) (S : ByteArray), u ≤ U ∧ S.size ≤ 20 ∧ n = .int .i64 u ∧ s = .string S ∧ Hid (dg0 u ++ S.data.toList = decDigits U) ∧ Below w.heap.size w wr)
    (fun n _ _ => (intOf n).toNat)
  case atStart => exact ⟨U, ⟨#[]⟩, by omega, by show (0 : Nat) ≤ 20; omega, rfl, rfl, by show _ = _; rw [dg0_pos U (by omega)]; simp, Below.refl _ _⟩
  case round =>
    obtain ⟨u, S, hu, hS, rfl, rfl, hd, hb⟩ := hrel
    have hsz := hb.size
    by_cases hz : u ≤ 0
    · have e : S = ⟨(decDigits U).toArray⟩ := by
        have h2 := hd.out
        have h3 : u = 0 := by omega
        rw [h3] at h2
        apply ByteArray.ext
        apply Array.toList_inj.1
        simpa [dg0] using h2
      have HE : Hid _ := e
      have d3 : ((u : Int) != 0) = false := by simp; omega
      clear e hd
      go_wp2
      go_ret
      exact ⟨congrArg (fun x => Ending.returned (.string x)) HE.out, hb⟩
    · have d3 : ((u : Int) != 0) = true := by simp; omega
      have hm : u % 10 < 10 := Nat.mod_lt _ (by omega)
      have HC : Hid (∀ w : World, Calls Try.prog 50 #[.int .i64 ((u : Int) % 10)] w fun e w' => e = .returned (.int .u8 (figI ((u : Int) % 10))) ∧ w = w') := fun w => (l01Figure_any ((u : Int) % 10) (by omega) (by omega) w).mono fun _ _ h => ⟨h.1, h.2.symm⟩
      obtain ⟨b, hbv⟩ : ∃ b : UInt8, b = UInt8.ofNat (48 + u % 10) := ⟨_, rfl⟩
      have hcv := conv_one wr b (figI ((u : Int) % 10)) (by rw [hbv, ← fig_dec _ hm, fig_toNat _ (by omega)]; simp)
      have ha : (one b ++ S).size ≤ 20 := by
        have h2 := congrArg List.length hd.out
        rw [dg0_step u (by omega)] at h2
        simp at h2
        rw [one_app_size]
        omega
      have ho := one_size b
      have HD : Hid (dg0 (u / 10) ++ (one b ++ S).data.toList = decDigits U) := by
        show _ = _
        rw [one_app, ← hd.out, dg0_step u (by omega), hbv]
        simp
      have hadd := fun wx => run_string_add_sum (P := Try.prog) wx (one b) S (by omega)
      clear hd hbv
      go_wp2_with (go_at_call 50; refine (HC.out _).mono ?_; rintro e w' ⟨rfl, hw⟩; subst hw)
      go_roundw
      case rel => exact ⟨u / 10, one b ++ S, by omega, ha, by go_num, rfl, HD, hb.alloc hsz _⟩
      case measure => simp [intOf]; omega

set_option maxRecDepth 100000 in
set_option maxHeartbeats 2000000 in
theorem sDecimal_neg (U : Nat) (h0 : 0 < U) (h1 : U ≤ 9223372036854775808) (w : World) :
    Calls Try.prog 35 #[.int .i64 (-(U : Int))] w fun e w' => e = .returned (.string (one 45 ++ ⟨(decDigits U).toArray⟩)) ∧ Below w.heap.size w w' := by
  have hl := dec_length U (by omega)
  have d1 : (-(U : Int) == 0) = false := by simp; omega
  have d2 : decide (-(U : Int) < 0) = true := by simp; omega
  go_enter Try.func35, Try.ntmps35
  go_wp2
  go_loopw [0, 4] (fun n s wr => ∃ (u : Nat) (S : ByteArray), u ≤ U ∧ S.size ≤ 20 ∧ n = .int .i64 (-(u : Int)) ∧ s = .string S ∧ Hid (dg0 u ++ S.data.toList = decDigits U) ∧ Below w.heap.size w wr)
    (fun n _ _ => (intOf n).natAbs)
  case atStart => exact ⟨U, ⟨#[]⟩, by omega, by show (0 : Nat) ≤ 20; omega, rfl, rfl, by show _ = _; rw [dg0_pos U (by omega)]; simp, Below.refl _ _⟩
  case round =>
    obtain ⟨u, S, hu, hS, rfl, rfl, hd, hb⟩ := hrel
    have hsz := hb.size
    by_cases hz : u ≤ 0
    · have e : S = ⟨(decDigits U).toArray⟩ := by
        have h2 := hd.out
        have h3 : u = 0 := by omega
        rw [h3] at h2
        apply ByteArray.ext
        apply Array.toList_inj.1
        simpa [dg0] using h2
      have HE : Hid _ := e
      have d3 : (-(u : Int) != 0) = false := by simp; omega
      clear e hd
      go_wp2
      go_ret
      exact ⟨congrArg (fun x => Ending.returned (.string (one 45 ++ x))) HE.out, hb⟩
    · have d3 : (-(u : Int) != 0) = true := by simp; omega
      have t1 : (-(u : Int)).tmod 10 = -((u : Int) % 10) := by rw [Int.neg_tmod, Int.tmod_eq_emod_of_nonneg (by omega)]
      have t2 : (-(u : Int)).tdiv 10 = -((u : Int) / 10) := by rw [Int.neg_tdiv, Int.tdiv_eq_ediv_of_nonneg (by omega)]
      have hm : u % 10 < 10 := Nat.mod_lt _ (by omega)
      obtain ⟨b, hbv⟩ : ∃ b : UInt8, b = UInt8.ofNat (48 + u % 10) := ⟨_, rfl⟩
      have HV : Hid ((b.toNat : Int) = figI ((u : Int) % 10)) := by show _ = _; rw [hbv, ← fig_dec _ hm, fig_toNat _ (by omega)]; simp
      have ha : (one b ++ S).size ≤ 20 := by
        have h2 := congrArg List.length hd.out
        rw [dg0_step u (by omega)] at h2
        simp at h2
        rw [one_app_size]
        omega
      have ho := one_size b
      have HD : Hid (dg0 (u / 10) ++ (one b ++ S).data.toList = decDigits U) := by
        show _ = _
        rw [one_app, ← hd.out, dg0_step u (by omega), hbv]
        simp
      have hadd := fun wx => run_string_add_sum (P := Try.prog) wx (one b) S (by omega)
      clear hd hbv
      by_cases hm0 : u % 10 ≤ 0
      · have HC : Hid (∀ w : World, Calls Try.prog 50 #[.int .i64 (-((u : Int) % 10))] w fun e w' => e = .returned (.int .u8 (figI (-((u : Int) % 10)))) ∧ w = w') := fun w => (l01Figure_any (-((u : Int) % 10)) (by omega) (by omega) w).mono fun _ _ h => ⟨h.1, h.2.symm⟩
        have hcv := conv_one wr b (figI (-((u : Int) % 10))) (by rw [HV.out]; congr 1; omega)
        go_wp2_with (go_at_call 50; refine (HC.out _).mono ?_; rintro e w' ⟨rfl, hw⟩; subst hw)
        go_roundw
        case rel => exact ⟨u / 10, one b ++ S, by omega, ha, congrArg (Value.int .i64) (by omega), rfl, HD, hb.alloc hsz _⟩
        case measure => simp [intOf]; omega
      · have HC : Hid (∀ w : World, Calls Try.prog 50 #[.int .i64 ((u : Int) % 10)] w fun e w' => e = .returned (.int .u8 (figI ((u : Int) % 10))) ∧ w = w') := fun w => (l01Figure_any ((u : Int) % 10) (by omega) (by omega) w).mono fun _ _ h => ⟨h.1, h.2.symm⟩
        have hcv := conv_one wr b (figI ((u : Int) % 10)) HV.out
        go_wp2_with (go_at_call 50; refine (HC.out _).mono ?_; rintro e w' ⟨rfl, hw⟩; subst hw)
        go_roundw
        case rel => exact ⟨u / 10, one b ++ S, by omega, ha, congrArg (Value.int .i64) (by omega), rfl, HD, hb.alloc hsz _⟩
        case measure => simp [intOf]; omega

theorem sDecimal_zero (w : World) :
    Calls Try.prog 35 #[.int .i64 0] w fun e w' => e = .returned (.string ⟨(decDigits 0).toArray⟩) ∧ Below w.heap.size w w' := by
  have e : decDigits 0 = [48] := by rw [Go.Lib.decDigits_one (by omega)]; rfl
  rw [e]
  go_enter Try.func35, Try.ntmps35
  go_wp2
  go_ret
  exact ⟨rfl, Below.refl _ _⟩

theorem sDecimal_any (n : Int) (h0 : -9223372036854775808 ≤ n) (h1 : n ≤ 9223372036854775807) (w : World) :
    Calls Try.prog 35 #[.int .i64 n] w fun e w' => e = .returned (.string ⟨(itoa n).toArray⟩) ∧ Below w.heap.size w w' := by
  by_cases hz : n = 0
  · subst hz
    exact sDecimal_zero w
  · by_cases hp : 0 ≤ n
    · obtain ⟨u, rfl⟩ := Int.eq_ofNat_of_zero_le hp
      have e : itoa (u : Int) = decDigits u := by unfold itoa; rw [if_neg (by omega)]; simp
      rw [e]
      exact sDecimal_pos u (by omega) (by omega) w
    · obtain ⟨u, hu⟩ := Int.eq_ofNat_of_zero_le (show 0 ≤ -n by omega)
      have hn : n = -(u : Int) := by omega
      subst hn
      have e : itoa (-(u : Int)) = 45 :: decDigits u := by unfold itoa; rw [if_pos (by omega)]; simp
      rw [e]
      have e2 : (⟨(45 :: decDigits u).toArray⟩ : ByteArray) = one 45 ++ ⟨(decDigits u).toArray⟩ := by
        apply ByteArray.ext
        apply Array.toList_inj.1
        rw [one_app]
      rw [e2]
      exact sDecimal_neg u (by omega) (by omega) w

end Go.Proofs.Ythffflpclmpamaa
namespace Go.Proofs.Ythffflpclmpamaa
open Go.RowKit

theorem takeOp {P : Program} {ops : Array Oper} {Q : Exit → Go.Act → World → Prop} {md : Region.Mode} {i : Nat} {oi : Oper} {v : Value} {fuel : Nat} {listed : Array Bool} {a : Go.Act} {w : World} (hi : ops[i]? = some oi)
    (hs : Region.noSelect ops = true) (hf : Region.free md ops listed i = true) (hr : (Region.ready md ops listed).contains i = true) (hQ : ∀ c a w, Q (.panic c) (a.put oi.dst v) w → Q (.panic c) a w)
    (hw : Region.wanted oi (yielded ops a.tmps) = true) (hv : ∀ w, (execOp a.eval oi).run P w = .ok (.value v) w) (h : wpAny P md ops Q fuel (listed.setIfInBounds i true) (a.put oi.dst v) w) : wpAny P md ops Q (fuel + 1) listed a w :=
  wpAny_take hi hs hf hr hQ (.inl ⟨hw, hv⟩) h

/-- an edge -/
abbrev EdgeV := Int × Int
theorem own_kindF {u : World} {lo b j n t e s : Nat} {v x : Value} {xs : List Value} {cs : Array Value} {fr : Nat × Nat} (h : u.ownsRow lo e s v n xs) (hb : u.heap[b]? = some (.cells cs t fr)) (hte : t ≠ e) : (u.setCell ⟨b, j, none⟩ x).ownsRow lo e s v n xs := by
  refine ⟨h.1, ?_⟩
  rcases h.2 with h3 | ⟨g, cap, cur, hv, hg, hcur, hrest⟩
  · exact .inl h3
  · refine .inr ⟨g, cap, cur, hv, hg, ?_, hrest⟩
    rw [heap_setCell_other u ⟨b, j, none⟩ g x (fun e2 => by
      have e2 : g = b := e2
      subst e2
      rw [hcur] at hb
      simp at hb
      exact hte hb.2.1.symm)]
    exact hcur
theorem own_blkF {u : World} {lo b n t e s : Nat} {v : Value} {xs : List Value} {cs : Array Value} {fr : Nat × Nat} (h : u.ownsRow lo e s v n xs) (hb : u.heap[b]? = some (.cells cs t fr)) (hte : t ≠ e) : some b ≠ v.ownBlock := by
  intro e1
  rcases h.2 with ⟨h3, _⟩ | ⟨g, cap, cur, hv, hg, hcur, _⟩
  · rw [h3] at e1
    simp [Value.ownBlock] at e1
  · rw [hv] at e1
    simp [Value.ownBlock] at e1
    subst e1
    rw [hcur] at hb
    simp at hb
    exact hte hb.2.1.symm
theorem tID_ne : 26 ≠ 49 := by decide
/-- files that are small enough for all that is done with them -/
def SmF (fs : List FileV) : Prop := ∀ f ∈ fs, f.name.size ≤ 100 ∧ f.text.size ≤ 30000
/-- where the drawing of a disk stands: the answer's box, the disk's, its files -/
structure LDS (w : World) (G : Nat) (a : Option Addr) (len cap X : Nat) (fs : List FileV) (a1 : Option Addr) (m c1 : Nat) (u : World) : Prop where
  d : Drawn w u G a len cap
  r : Box u w.heap.size 26 (.slice none 0 0)
  g : Box u X 26 (.slice a1 m c1)
  own : u.ownsRow (w.heap.size + 1) 49 3 (.slice a1 m c1) m (fcells fs)
  hX : w.heap.size < X
  hG : G < w.heap.size
  low : Low a len w.heap.size
section
variable {w u v : World} {G : Nat} {a : Option Addr} {len cap X : Nat} {fs : List FileV} {a1 : Option Addr} {m c1 : Nat}
theorem LDS.drawn (h : LDS w G a len cap X fs a1 m c1 u) (d : Drawn u v G a len cap) : LDS w G a len cap X fs a1 m c1 v :=
  ⟨h.d.trans d, d.box h.r (by have := h.hG; omega), d.box h.g (by have := h.hG; have := h.hX; omega), d.row h.own (by have := h.hG; omega), h.hX, h.hG, h.low⟩
theorem LDS.up (h : LDS w G a len cap X fs a1 m c1 u) (hb : Below u.heap.size u v) : LDS w G a len cap X fs a1 m c1 v :=
  ⟨h.d.app h.low h.hG (row := none) ⟨hb.os, hb.tape, hb.output, hb.size, fun k hk _ => hb.block k hk⟩ (fun k hk => by cases hk), h.r.below hb h.r.lt, h.g.below hb h.g.lt,
    World.ownsRow.kept h.own (row := none) ⟨hb.os, hb.tape, hb.output, hb.size, fun k hk _ => hb.block k hk⟩ (by cases hv : (Value.slice a1 m c1).ownBlock <;> simp), h.hX, h.hG, h.low⟩
theorem LDS.alloc (h : LDS w G a len cap X fs a1 m c1 u) (o : Obj) : LDS w G a len cap X fs a1 m c1 (u.alloc o) := h.up ((Below.refl _ _).alloc (Nat.le_refl _) o)
theorem LDS.drew (h : LDS w G a len cap X fs a1 m c1 u) : LDS w G a len cap X fs a1 m c1 u.drew := h.up (Below.refl _ _).drew
/-- other files come into the disk's box -/
theorem LDS.turn {hs : List FileV} {a2 : Option Addr} {m2 c2 : Nat} (h : LDS w G a len cap X fs a1 m c1 u) (ho : u.ownsRow (w.heap.size + 1) 49 3 (.slice a2 m2 c2) m2 (fcells hs)) : LDS w G a len cap X hs a2 m2 c2 (u.setCell ⟨X, 0, none⟩ (.slice a2 m2 c2)) :=
  ⟨h.d.app h.low h.hG (grown_set u X 0 _) (fun k hk => by simp at hk; have := h.hX; omega), h.r.setOther _ (by have := h.hX; omega), h.g.set _, own_kindF ho h.g tID_ne, h.hX, h.hG, h.low⟩
/-- a file comes behind -/
theorem LDS.app {hs : List FileV} {a2 : Option Addr} {m2 c2 : Nat} (h : LDS w G a len cap X fs a1 m c1 u) (hg : u.grownBy v (Value.slice a1 m c1).ownBlock) (ho : v.ownsRow (w.heap.size + 1) 49 3 (.slice a2 m2 c2) m2 (fcells hs)) :
    (Box v X 26 (.slice a1 m c1)) ∧ LDS w G a len cap X hs a2 m2 c2 (v.setCell ⟨X, 0, none⟩ (.slice a2 m2 c2)) := by
  have h1 := h.d.app h.low h.hG hg (fun k hk => by have := (h.own.lt k hk).1; omega)
  have h2 := h.r.grown hg (own_blkF h.own h.r tID_ne)
  have h3 := h.g.grown hg (own_blkF h.own h.g tID_ne)
  exact ⟨h3, h1.app h.low h.hG (grown_set v X 0 _) (fun k hk => by simp at hk; have := h.hX; omega), h2.setOther _ (by have := h.hX; omega), h3.set _, own_kindF ho h3 tID_ne, h.hX, h.hG, h.low⟩
/-- a file's cell turns in place -/
theorem LDS.cell {hs : List FileV} {g j : Nat} {x : Value} (h : LDS w G a len cap X fs (some ⟨g, 0, none⟩) m c1 u) (ho : (u.setCell ⟨g, j, none⟩ x).ownsRow (w.heap.size + 1) 49 3 (.slice (some ⟨g, 0, none⟩) m c1) m (fcells hs)) : LDS w G a len cap X hs (some ⟨g, 0, none⟩) m c1 (u.setCell ⟨g, j, none⟩ x) := by
  have hlt := (h.own.lt g rfl).1
  have n1 := own_blkF h.own h.r tID_ne
  have n2 := own_blkF h.own h.g tID_ne
  simp [Value.ownBlock] at n1 n2
  exact ⟨h.d.app h.low h.hG (grown_set u g j _) (fun k hk => by simp at hk; omega), h.r.setOther _ n1, h.g.setOther _ n2, ho, h.hX, h.hG, h.low⟩
theorem LDS.fin (h : LDS w G a len cap X fs a1 m c1 u) : (u.setCell ⟨w.heap.size, 0, none⟩ (.slice a1 m c1)).ownsRow w.heap.size 49 3 (.slice a1 m c1) m (fcells fs) ∧ Drawn w (u.setCell ⟨w.heap.size, 0, none⟩ (.slice a1 m c1)) G a len cap ∧ Box (u.setCell ⟨w.heap.size, 0, none⟩ (.slice a1 m c1)) w.heap.size 26 (.slice a1 m c1) :=
  ⟨own_mono (own_setLow h.own w.heap.size 0 _ (by omega)) (by omega), h.d.app h.low h.hG (grown_set u w.heap.size 0 _) (fun k hk => by simp at hk; omega), h.r.set _⟩
end

theorem fcells_set2 (fs : List FileV) (q : Nat) (fq : FileV) (h : fs[q]? = some fq) (z : Int) : fcells (fs.set q ⟨fq.name, fq.text, z⟩) = (fcells fs).set (q * 3 + 2) (.int .i64 z) := by
  induction fs generalizing q with
  | nil => simp at h
  | cons d fs ih =>
    cases q with
    | zero => simp at h; subst h; simp [fcells, fcell]
    | succ q =>
      have e := ih q (by simpa using h)
      rw [List.set_cons_succ, show fcells (d :: fs.set q ⟨fq.name, fq.text, z⟩) = fcell d ++ fcells (fs.set q ⟨fq.name, fq.text, z⟩) from rfl, e, show fcells (d :: fs) = fcell d ++ fcells fs from rfl, List.set_append_right _ _ (by simp [fcell]; omega)]
      congr 2
      simp [fcell]
      omega
theorem fcells_set1 (fs : List FileV) (q : Nat) (fq : FileV) (h : fs[q]? = some fq) (z : ByteArray) : fcells (fs.set q ⟨fq.name, z, fq.kept⟩) = (fcells fs).set (q * 3 + 1) (.string z) := by
  induction fs generalizing q with
  | nil => simp at h
  | cons d fs ih =>
    cases q with
    | zero => simp at h; subst h; simp [fcells, fcell]
    | succ q =>
      have e := ih q (by simpa using h)
      rw [List.set_cons_succ, show fcells (d :: fs.set q ⟨fq.name, z, fq.kept⟩) = fcell d ++ fcells (fs.set q ⟨fq.name, z, fq.kept⟩) from rfl, e, show fcells (d :: fs) = fcell d ++ fcells fs from rfl, List.set_append_right _ _ (by simp [fcell]; omega)]
      congr 2
      simp [fcell]
      omega
theorem fcells_set0 (fs : List FileV) (q : Nat) (fq : FileV) (h : fs[q]? = some fq) (z : ByteArray) : fcells (fs.set q ⟨z, fq.text, fq.kept⟩) = (fcells fs).set (q * 3) (.string z) := by
  induction fs generalizing q with
  | nil => simp at h
  | cons d fs ih =>
    cases q with
    | zero => simp at h; subst h; simp [fcells, fcell]
    | succ q =>
      have e := ih q (by simpa using h)
      rw [List.set_cons_succ, show fcells (d :: fs.set q ⟨z, fq.text, fq.kept⟩) = fcell d ++ fcells (fs.set q ⟨z, fq.text, fq.kept⟩) from rfl, e, show fcells (d :: fs) = fcell d ++ fcells fs from rfl, List.set_append_right _ _ (by simp [fcell]; omega)]
      congr 2
      simp [fcell]
      omega
theorem three_of (w : World) (z0 z1 z2 : ByteArray) (h0 : z0.size ≤ 100) (h1 : z1.size ≤ 100) (h2 : z2.size ≤ 100) (t : TypeId) : ∀ j, j < 3 → ∃ s : ByteArray, s.size ≤ 100 ∧ (w.alloc (.cells #[.string z0, .string z1, .string z2] t)).cell? ⟨w.heap.size, j, none⟩ = some (.string s) := by
  intro j hj
  rw [cell_of_row _ w.heap.size j _ t (0, 0) (heap_alloc_new w _)]
  rcases (show j = 0 ∨ j = 1 ∨ j = 2 from by omega) with rfl | rfl | rfl
  · exact ⟨_, h0, rfl⟩
  · exact ⟨_, h1, rfl⟩
  · exact ⟨_, h2, rfl⟩
theorem sm_snoc {fs : List FileV} {f : FileV} (h : SmF fs) (hf : f.name.size ≤ 100 ∧ f.text.size ≤ 30000) : SmF (fs ++ [f]) := fun x hx => by
  rcases List.mem_append.1 hx with hx | hx
  · exact h x hx
  · simp at hx; subst hx; exact hf
theorem sm_set {fs : List FileV} {q : Nat} {f : FileV} (h : SmF fs) (hf : f.name.size ≤ 100 ∧ f.text.size ≤ 30000) : SmF (fs.set q f) := fun x hx => by
  rcases List.mem_or_eq_of_mem_set hx with hx | rfl
  · exact h x hx
  · exact hf


/-- any disk drawn -/
def LDA (w : World) (G : Nat) (a : Option Addr) (len cap : Nat) (e : Ending) (w' : World) : Prop :=
  ∃ (fs : List FileV) (a1 : Option Addr) (m c1 : Nat), (m ≤ 32 ∧ SmF fs) ∧ e = .returned (.agg #[.slice a1 m c1]) ∧ w'.ownsRow w.heap.size 49 3 (.slice a1 m c1) m (fcells fs) ∧ Drawn w w' G a len cap
set_option maxRecDepth 100000 in
set_option maxHeartbeats 8000000 in
theorem l03Disk_any (w : World) (G : Nat) (a : Option Addr) (len cap : Nat) (hl : len ≤ 1048576) (hlow : Low a len w.heap.size) (hcur : Cur w G a len cap) (hcode : Code w G a len) : Calls Try.prog 14 #[.pointer (some ⟨G, 0, none⟩)] w fun e w' => LDA w G a len cap e w' := by
  have hGl := hcur.lt
  have HB := hideIt (fun (n : Int) (h0 : 0 < n) (h1 : n ≤ 4294967296) (W : World) (d : Drawn w W G a len cap) => l01Below_any n h0 h1 W G a len cap hl d.cur d.code)
  have HT := hideIt (fun (n : Nat) (hn : n ≤ 5000) (W : World) (d : Drawn w W G a len cap) => l01Text_drawn n hn W G a len cap hl d.cur d.code)
  have HM := hideIt (fun (W : World) (d : Drawn w W G a len cap) => l03Named_any W G a len cap hl d.cur d.code)
  have S0 : LDS w G a len cap (w.heap.size + 1) [] none 0 0 ((w.alloc (.cells #[.slice none 0 0] 26)).alloc (.cells #[.slice none 0 0] 26)) := by
    have hx := Box.new (w.alloc (.cells #[.slice none 0 0] 26)) 26 (.slice none 0 0) (w.heap.size + 1) (by simp)
    exact ⟨(Drawn.refl hcur hcode).app hlow hGl (row := none) ⟨rfl, rfl, rfl, by simp; omega, fun k hk _ => by rw [Below.heap_alloc _ _ k (by simp; omega), Below.heap_alloc _ _ k hk]⟩ (fun k hk => by cases hk), (Box.new w _ _ _ rfl).alloc _, hx, World.ownsRow_nil _ _ _ _, by omega, hGl, hlow⟩
  have HS0 := hideIt S0
  clear hcur hcode S0
  go_enter Try.func14, Try.ntmps14
  go_wp2
  generalize hX : w.heap.size + 1 = X at *
  have hXw : w.heap.size < X := by omega
  clear hX
  go_loopw [4] (fun i wr => ∃ (k : Nat) (fs : List FileV) (a1 : Option Addr) (m c1 : Nat), k ≤ 6 ∧ i = .int .i64 (k : Int) ∧ Hid (fs.length ≤ k ∧ SmF fs) ∧ Hid (LDS w G a len cap X fs a1 m c1 wr)) (fun i _ => 7 - (intOf i).toNat)
  case atStart => exact ⟨0, [], none, 0, 0, by omega, rfl, ⟨by simp, by simp [SmF]⟩, HS0⟩
  case round =>
    obtain ⟨k, fs, a1, m, c1, hk, rfl, hR, hD⟩ := hrel
    clear HS0
    have HX := hideIt (HB.out 6 (by omega) (by omega) wr hD.out.d)
    go_wp2_with (go_at_call 29; refine HX.out.mono ?_; rintro e w2 ⟨x, hx, rfl, dr2⟩; refine Hid.out ?_)
    refine (show ∀ {p : Prop}, p → Hid p from fun h => h) ?_
    have D2 := hideIt (hD.out.drawn dr2)
    clear HX dr2 hD
    by_cases hkx : k < x
    · have d1 : decide ((k : Int) < (x : Int)) = true := by simp; omega
      have HX := hideIt (HB.out 9 (by omega) (by omega) w2 D2.out.d)
      go_wp2_with (go_at_call 29; refine HX.out.mono ?_; rintro e w3 ⟨y, hy, rfl, dr3⟩; refine Hid.out ?_)
      refine (show ∀ {p : Prop}, p → Hid p from fun h => h) ?_
      have D3 := hideIt (D2.out.drawn dr3)
      have HX3 := hideIt (HT.out y (by omega) w3 D3.out.d)
      clear HX dr3 D2
      go_wp2_with (go_at_call 30; refine HX3.out.mono ?_; rintro e w4 ⟨S, hS, rfl, dr4⟩; refine Hid.out ?_)
      refine (show ∀ {p : Prop}, p → Hid p from fun h => h) ?_
      subst hS
      have D4 := hideIt (D3.out.drawn dr4)
      clear HX3 dr4 D3
      have q4 := D4.out.drew.g.cell
      have HM4 := hideIt (HM.out w4.drew D4.out.drew.d)
      have hm6 : m ≤ 1048576 := by
        have h1 := D4.out.own.1
        rw [fcells_length] at h1
        have := hR.out.1
        omega
      have hwr : IntKind.i64.wrap ((S.size : Int) + 1) = (S.size : Int) + 1 := by rw [IntKind.wrap_i64]; omega
      go_upto_region 6 with fail
      go_region_with (first
        | (go_at_call 32; refine HM4.out.mono ?_; rintro e w5 ⟨nm, hnm, rfl, dr5⟩; have D5 := hideIt (D4.out.drew.drawn dr5); have q5 := D5.out.g.cell)
        | (go_at_call 29; refine (HB.out ((S.size : Int) + 1) (by omega) (by omega) w5 D5.out.d).mono ?_; rintro e w6 ⟨z, hz, rfl, dr6⟩; have D6 := hideIt (D5.out.drawn dr6); have q6 := D6.out.g.cell)
        | (go_at_call 31; refine (l03Put_any fs ⟨nm, S, (z : Int)⟩ m a1 c1 hm6 w6 (Fs_of_ownv D6.out.own)).mono ?_; rintro e w7 ⟨a2, m2, c2, rfl, hown7, hb7⟩; have D7 := hideIt (D6.out.up hb7); have q7 := D7.out.g.cell; have f7 := D7.out.g.frozen))
      all_goals
        have l6 := D6.out.r.lt
        have HR2 : Hid ((put fs ⟨nm, S, (z : Int)⟩).length ≤ k + 1 ∧ SmF (put fs ⟨nm, S, (z : Int)⟩)) := ⟨by have := put_short fs ⟨nm, S, (z : Int)⟩; have := hR.out.1; omega, fun f hf => by
          rcases mem_put.1 hf with rfl | hf
          · have := hnm.2; exact ⟨by show nm.size ≤ 100; omega, by show S.size ≤ 30000; omega⟩
          · exact hR.out.2 f hf.1⟩
        have D8 := hideIt (D7.out.turn (own_mono hown7 (by omega)))
        clear hown7 D7 D6 D5 D4
        go_wp2
        exact ⟨⟨k + 1, _, a2, m2, c2, by omega, by go_num, HR2, D8⟩, by simp [intOf]; omega⟩
    · have d1 : decide ((k : Int) < (x : Int)) = false := by simp; omega
      have hlen : fs.length = m := by have := D2.out.own.1; rw [fcells_length] at this; omega
      have hmm : m ≤ 32 ∧ SmF fs := ⟨by have := hR.out.1; omega, hR.out.2⟩
      have g0' := D2.out.g.cell
      have gl' := D2.out.g.lt
      by_cases hm0 : m = 0
      · subst hm0
        clear hlen hR
        have r0 := D2.out.r.cell
        have rf := D2.out.r.frozen
        have g0 := D2.out.g.cell
        have gl := D2.out.g.lt
        have HF := hideIt D2.out.fin
        have s1 := D2.out.fin.2.2.cell
        clear D2
        go_wp2
        exact bodyPost_ret (v := .agg #[.slice a1 0 c1]) (by simp [results, Try.results14, go_sem, s1]) rfl ⟨_, _, _, _, hmm, rfl, HF.out.1, HF.out.2.1⟩
      · have d2 : ((m : Int) == 0) = false := by simpa using (show ¬ (m : Int) = 0 by omega)
        have hk0 : 0 < m := by omega
        obtain ⟨g, hg1⟩ : ∃ g, a1 = some ⟨g, 0, none⟩ := by
          rcases D2.out.own.2 with ⟨hv, h0⟩ | ⟨g, cap9, cur9, hv, _⟩
          · omega
          · simp at hv; exact ⟨g, hv.1⟩
        subst hg1
        have HX := hideIt (HB.out (m : Int) (by omega) (by omega) w2 D2.out.d)
        go_wp2_with (go_at_call 29; refine HX.out.mono ?_; rintro e w3 ⟨q, hq, rfl, dr3⟩; refine Hid.out ?_)
        refine (show ∀ {p : Prop}, p → Hid p from fun h => h) ?_
        have D3 := hideIt (D2.out.drawn dr3)
        clear HX dr3 D2 g0' gl'
        have HX := hideIt (HB.out 40 (by omega) (by omega) w3 D3.out.d)
        go_wp2_with (go_at_call 29; refine HX.out.mono ?_; rintro e w4 ⟨s, _, rfl, dr4⟩; refine Hid.out ?_)
        refine (show ∀ {p : Prop}, p → Hid p from fun h => h) ?_
        have D := hideIt (D3.out.drawn dr4)
        have hm7 : m ≤ 6 := by have := hR.out.1; omega
        clear HX dr4 D3 hR hkx d1 d2 hm0
        have hq1 : (0 : Int) ≤ (q : Int) := by omega
        have hql : q < fs.length := by omega
        obtain ⟨fq, hfq⟩ : ∃ fq, fs[q]? = some fq := ⟨fs[q], List.getElem?_eq_getElem hql⟩
        have hsz := hmm.2 fq (List.mem_of_getElem? hfq)
        have CT : Hid (∀ (u : World) (fs' : List FileV) (f' : FileV), fs'[q]? = some f' → f'.text = fq.text → LDS w G a len cap X fs' (some ⟨g, 0, none⟩) m c1 u → u.cell? ⟨X, 0, none⟩ = some (.slice (some ⟨g, 0, none⟩) m c1) ∧ u.cell? ⟨g, q * 3 + 1, none⟩ = some (.string fq.text)) := fun u fs' f' h1 h2 hu => ⟨hu.g.cell, by rw [hu.own.cellAt (q * 3 + 1) (by omega), (fcells_at fs' q f' h1).2.1, h2]⟩
        by_cases h0 : s = 0
        · subst h0
          have Dd := hideIt D.out.drew
          have Da := hideIt (D.out.alloc (.cells #[.int .i64 (-1), .int .i64 ((fq.text.size : Int) + 1)] 3)).drew
          have hSd := CT.out _ fs fq hfq rfl Dd.out
          have hSa := CT.out _ fs fq hfq rfl Da.out
          have hwr : IntKind.i64.wrap ((fq.text.size : Int) + 1) = (fq.text.size : Int) + 1 := by rw [IntKind.wrap_i64]; omega
          have P1 : Hid (Calls Try.prog 33 #[.pointer (some ⟨G, 0, none⟩), .slice (some ⟨w4.heap.size, 0, none⟩) 2 2] (w4.alloc (.cells #[.int .i64 (-1), .int .i64 ((fq.text.size : Int) + 1)] 3)).drew fun e w' => ∃ x : Int, e = .returned (.int .i64 x) ∧ Drawn (w4.alloc (.cells #[.int .i64 (-1), .int .i64 ((fq.text.size : Int) + 1)] 3)).drew w' G a len cap) :=
            l01PickInt_any w4.heap.size 2 2 (by omega) (by omega) _ G a len cap hl Da.out.d.cur Da.out.d.code (by show w4.heap.size < (w4.alloc _).heap.size; simp) (by have := D.out.g.lt; omega) (two_cells w4 (-1) ((fq.text.size : Int) + 1) 3)
          go_upto_region 12 with fail
          go_region_held3 (fun u => u.cell? ⟨X, 0, none⟩ = some (.slice (some ⟨g, 0, none⟩) m c1) ∧ u.cell? ⟨g, q * 3 + 1, none⟩ = some (.string fq.text))
            (first | exact hSd | exact hSa | exact hS9 | exact hS10)
            ((go_at_call 33; refine P1.out.mono ?_; rintro e w9 ⟨x, rfl, dr9⟩; have D9 := hideIt (Da.out.drawn dr9); have hS9 := CT.out _ fs fq hfq rfl D9.out; have o9 := D9.out.own; have fz := o9.frozenAt (q * 3 + 2); have kc := (o9.cellAt (q * 3 + 2) (by omega)).trans (fcells_at fs q fq hfq).2.2; have D10 := hideIt (D9.out.cell (hs := fs.set q ⟨fq.name, fq.text, x⟩) (j := q * 3 + 2) (x := .int .i64 x) (by rw [fcells_set2 fs q fq hfq x]; exact (o9.stored (q * 3 + 2) _).1)); have hS10 := CT.out _ _ ⟨fq.name, fq.text, x⟩ (List.getElem?_set_self hql) rfl D10.out))
          all_goals
            clear hSd hSa hS9 hS10 P1 Da Dd o9 fz kc D9 D CT dr9
            have hmm2 := (show m ≤ 32 ∧ SmF (fs.set q ⟨fq.name, fq.text, x⟩) from ⟨hmm.1, sm_set hmm.2 hsz⟩)
            clear hmm
            have hmm := hmm2
            clear hmm2
            have r0 := D10.out.r.cell
            have rf := D10.out.r.frozen
            have g0 := D10.out.g.cell
            have gl := D10.out.g.lt
            have HF := hideIt D10.out.fin
            have s1 := D10.out.fin.2.2.cell
            clear D10
            go_wp2
            exact bodyPost_ret (v := .agg #[.slice (some ⟨g, 0, none⟩) m c1]) (by simp [results, Try.results14, go_sem, s1]) rfl ⟨_, _, _, _, hmm, rfl, HF.out.1, HF.out.2.1⟩
        · have e0 : ((s : Int) == 0) = false := by simpa using (show ¬ (s : Int) = 0 by omega)
          clear h0
          by_cases h1 : s = 1
          · have e1 : ((s : Int) == 1) = true := by simpa using (show (s : Int) = 1 by omega)
            clear h1
            obtain ⟨i0, hi, hz0, hz1, hz2⟩ := info_parts infoIF
            have Dd := hideIt D.out.drew
            have Da := hideIt (D.out.alloc (.cells #[.string fq.name, .string fq.text, .int .i64 fq.kept] 49)).drew
            have kX := Dd.out.g.cell
            have kXa := Da.out.g.cell
            have n0 := (Dd.out.own.cellAt (q * 3) (by omega)).trans (fcells_at fs q fq hfq).1
            have n1 := (Dd.out.own.cellAt (q * 3 + 1) (by omega)).trans (fcells_at fs q fq hfq).2.1
            have n2 := (Dd.out.own.cellAt (q * 3 + 2) (by omega)).trans (fcells_at fs q fq hfq).2.2
            clear Dd
            go_upto_region 14 with fail
            refine wp_region_any (by kernel_rfl) ?_
            change wpAny _ _ _ _ _ _ _ (World.drew _)
            refine takeOp (i := 0) (v := ?_) rfl (by kernel_rfl) (by kernel_rfl) (by kernel_rfl) (fun _ _ _ h => h) (by kernel_rfl) ?_ ?_
            rotate_left
            · intro w; go_simp; try with_reducible rfl
            try simp only [Act.put, List.getElem_toArray, List.getElem_cons_zero, List.setIfInBounds_toArray, List.set_cons_zero, List.set_cons_succ]
            refine takeOp (i := 2) (v := ?_) rfl (by kernel_rfl) (by kernel_rfl) (by kernel_rfl) (fun _ _ _ h => h) (by kernel_rfl) ?_ ?_
            rotate_left
            · intro w; go_simp; try with_reducible rfl
            try simp only [Act.put, List.getElem_toArray, List.getElem_cons_succ, List.getElem_cons_zero, List.setIfInBounds_toArray, List.set_cons_zero, List.set_cons_succ]
            refine takeOp (i := 4) (v := ?_) rfl (by kernel_rfl) (by kernel_rfl) (by kernel_rfl) (fun _ _ _ h => h) (by kernel_rfl) ?_ ?_
            rotate_left
            · intro w; go_simp; try with_reducible rfl
            try simp only [Act.put, List.getElem_toArray, List.getElem_cons_succ, List.getElem_cons_zero, List.setIfInBounds_toArray, List.set_cons_zero, List.set_cons_succ]
            refine wpAny_ready (rs := [1, 3]) (by kernel_rfl) (by simp) ?_
            refine AllReady.cons rfl (fun K hK => ?_) (AllReady.cons rfl (fun K hK => ?_) AllReady.nil)
            · go_simp
              refine hK _ _ ?_
              clear hK K
              try simp only [Act.put, List.getElem_toArray, List.getElem_cons_succ, List.getElem_cons_zero, List.setIfInBounds_toArray, List.set_cons_zero, List.set_cons_succ]
              refine wpAny_ready (rs := [3]) (by kernel_rfl) (by simp) ?_
              refine AllReady.cons rfl (fun K hK => ?_) AllReady.nil
              go_simp
              refine hK _ _ ?_
              clear hK K
              try simp only [Act.put, List.getElem_toArray, List.getElem_cons_succ, List.getElem_cons_zero, List.setIfInBounds_toArray, List.set_cons_zero, List.set_cons_succ]
              refine wpAny_ready (rs := [5]) (by kernel_rfl) (by simp) ?_
              refine AllReady.cons rfl (fun K hK => ?_) AllReady.nil
              go_simp
              refine hK _ _ ?_
              clear hK K
              try simp only [Act.put, List.getElem_toArray, List.getElem_cons_succ, List.getElem_cons_zero, List.setIfInBounds_toArray, List.set_cons_zero, List.set_cons_succ]
              refine wpAny_ready (rs := [6]) (by kernel_rfl) (by simp) ?_
              refine AllReady.cons rfl (fun K hK => ?_) AllReady.nil
              go_simp
              refine hK _ _ ?_
              clear hK K
              try simp only [Act.put, List.getElem_toArray, List.getElem_cons_succ, List.getElem_cons_zero, List.setIfInBounds_toArray, List.set_cons_zero, List.set_cons_succ]
              refine wpAny_ready (rs := [7]) (by kernel_rfl) (by simp) ?_
              refine AllReady.cons rfl (fun K hK => ?_) AllReady.nil
              go_simp
              refine hK _ _ ?_
              clear hK K
              try simp only [Act.put, List.getElem_toArray, List.getElem_cons_succ, List.getElem_cons_zero, List.setIfInBounds_toArray, List.set_cons_zero, List.set_cons_succ]
              refine wpAny_ready (rs := [8]) (by kernel_rfl) (by simp) ?_
              refine AllReady.cons rfl (fun K hK => ?_) AllReady.nil
              refine step_append_lies _ rfl _ _ 24 rfl (w.heap.size + 1) 49 i0 _ 3 40 Try.underlying24 hi hz0 hz1 hz2 rfl (by decide) _ m _ rfl Da.out.own ⟨w4.heap.size, 0, none⟩ 1 1 [.string fq.name, .string fq.text, .int .i64 fq.kept] rfl rfl (World.news_of_block (cs := #[.string fq.name, .string fq.text, .int .i64 fq.kept]) (t := 49) (fr := (0, 0)) (heap_alloc_new w4 _)) (by intro u hu; simp at hu; rcases hu with rfl | rfl | rfl <;> rfl) (by omega) (by unfold maxLen; omega) (by omega) (by have := D.out.g.lt; have := D.out.hX; show w.heap.size + 1 ≤ (w4.alloc _).heap.size; simp; omega) (w4.heap.size + 1) (by show (w4.alloc _).heap.size = _; simp) ?_
              intro g6 c6 w6 ho6 hg6 _ _
              have hx6 := Da.out.app (hs := fs ++ [fq]) hg6 (by rw [fcells_snoc]; exact ho6)
              have u1 := hx6.1.cell
              have uf := hx6.1.frozen
              have S7 := hideIt hx6.2
              clear ho6 hg6 Da hx6 kXa kX n0 n1 n2 D CT
              refine hK _ _ ?_
              clear hK K
              try simp only [Act.put, List.getElem_toArray, List.getElem_cons_succ, List.getElem_cons_zero, List.setIfInBounds_toArray, List.set_cons_zero, List.set_cons_succ]
              refine wpAny_ready (rs := [9]) (by kernel_rfl) (by simp) ?_
              refine AllReady.cons rfl (fun K hK => ?_) AllReady.nil
              go_simp
              refine hK _ _ ?_
              clear hK K
              try simp only [Act.put, List.getElem_toArray, List.getElem_cons_succ, List.getElem_cons_zero, List.setIfInBounds_toArray, List.set_cons_zero, List.set_cons_succ]
              refine wpAny_ready (rs := [10]) (by kernel_rfl) (by simp) ?_
              refine AllReady.cons rfl (fun K hK => ?_) AllReady.nil
              go_simp
              refine hK _ _ ?_
              clear hK K
              try simp only [Act.put, List.getElem_toArray, List.getElem_cons_succ, List.getElem_cons_zero, List.setIfInBounds_toArray, List.set_cons_zero, List.set_cons_succ]
              refine wpAny_done (by kernel_rfl) ?_ _
              clear u1 uf
              have hmm2 := (show m + 1 ≤ 32 ∧ SmF (fs ++ [fq]) from ⟨by omega, sm_snoc hmm.2 hsz⟩)
              clear hmm
              have hmm := hmm2
              clear hmm2
              have r0 := S7.out.r.cell
              have rf := S7.out.r.frozen
              have g0 := S7.out.g.cell
              have gl := S7.out.g.lt
              have HF := hideIt S7.out.fin
              have s1 := S7.out.fin.2.2.cell
              clear S7
              go_wp2
              exact bodyPost_ret (v := .agg #[.slice (some ⟨g6, 0, none⟩) (m + 1) c6]) (by simp [results, Try.results14, go_sem, s1]) rfl ⟨_, _, _, _, hmm, rfl, HF.out.1, HF.out.2.1⟩
            · go_simp
              refine hK _ _ ?_
              clear hK K
              try simp only [Act.put, List.getElem_toArray, List.getElem_cons_succ, List.getElem_cons_zero, List.setIfInBounds_toArray, List.set_cons_zero, List.set_cons_succ]
              refine wpAny_ready (rs := [1, 5]) (by kernel_rfl) (by simp) ?_
              refine AllReady.cons rfl (fun K hK => ?_) (AllReady.cons rfl (fun K hK => ?_) AllReady.nil)
              · go_simp
                refine hK _ _ ?_
                clear hK K
                try simp only [Act.put, List.getElem_toArray, List.getElem_cons_succ, List.getElem_cons_zero, List.setIfInBounds_toArray, List.set_cons_zero, List.set_cons_succ]
                refine wpAny_ready (rs := [5]) (by kernel_rfl) (by simp) ?_
                refine AllReady.cons rfl (fun K hK => ?_) AllReady.nil
                go_simp
                refine hK _ _ ?_
                clear hK K
                try simp only [Act.put, List.getElem_toArray, List.getElem_cons_succ, List.getElem_cons_zero, List.setIfInBounds_toArray, List.set_cons_zero, List.set_cons_succ]
                refine wpAny_ready (rs := [6]) (by kernel_rfl) (by simp) ?_
                refine AllReady.cons rfl (fun K hK => ?_) AllReady.nil
                go_simp
                refine hK _ _ ?_
                clear hK K
                try simp only [Act.put, List.getElem_toArray, List.getElem_cons_succ, List.getElem_cons_zero, List.setIfInBounds_toArray, List.set_cons_zero, List.set_cons_succ]
                refine wpAny_ready (rs := [7]) (by kernel_rfl) (by simp) ?_
                refine AllReady.cons rfl (fun K hK => ?_) AllReady.nil
                go_simp
                refine hK _ _ ?_
                clear hK K
                try simp only [Act.put, List.getElem_toArray, List.getElem_cons_succ, List.getElem_cons_zero, List.setIfInBounds_toArray, List.set_cons_zero, List.set_cons_succ]
                refine wpAny_ready (rs := [8]) (by kernel_rfl) (by simp) ?_
                refine AllReady.cons rfl (fun K hK => ?_) AllReady.nil
                refine step_append_lies _ rfl _ _ 24 rfl (w.heap.size + 1) 49 i0 _ 3 40 Try.underlying24 hi hz0 hz1 hz2 rfl (by decide) _ m _ rfl Da.out.own ⟨w4.heap.size, 0, none⟩ 1 1 [.string fq.name, .string fq.text, .int .i64 fq.kept] rfl rfl (World.news_of_block (cs := #[.string fq.name, .string fq.text, .int .i64 fq.kept]) (t := 49) (fr := (0, 0)) (heap_alloc_new w4 _)) (by intro u hu; simp at hu; rcases hu with rfl | rfl | rfl <;> rfl) (by omega) (by unfold maxLen; omega) (by omega) (by have := D.out.g.lt; have := D.out.hX; show w.heap.size + 1 ≤ (w4.alloc _).heap.size; simp; omega) (w4.heap.size + 1) (by show (w4.alloc _).heap.size = _; simp) ?_
                intro g6 c6 w6 ho6 hg6 _ _
                have hx6 := Da.out.app (hs := fs ++ [fq]) hg6 (by rw [fcells_snoc]; exact ho6)
                have u1 := hx6.1.cell
                have uf := hx6.1.frozen
                have S7 := hideIt hx6.2
                clear ho6 hg6 Da hx6 kXa kX n0 n1 n2 D CT
                refine hK _ _ ?_
                clear hK K
                try simp only [Act.put, List.getElem_toArray, List.getElem_cons_succ, List.getElem_cons_zero, List.setIfInBounds_toArray, List.set_cons_zero, List.set_cons_succ]
                refine wpAny_ready (rs := [9]) (by kernel_rfl) (by simp) ?_
                refine AllReady.cons rfl (fun K hK => ?_) AllReady.nil
                go_simp
                refine hK _ _ ?_
                clear hK K
                try simp only [Act.put, List.getElem_toArray, List.getElem_cons_succ, List.getElem_cons_zero, List.setIfInBounds_toArray, List.set_cons_zero, List.set_cons_succ]
                refine wpAny_ready (rs := [10]) (by kernel_rfl) (by simp) ?_
                refine AllReady.cons rfl (fun K hK => ?_) AllReady.nil
                go_simp
                refine hK _ _ ?_
                clear hK K
                try simp only [Act.put, List.getElem_toArray, List.getElem_cons_succ, List.getElem_cons_zero, List.setIfInBounds_toArray, List.set_cons_zero, List.set_cons_succ]
                refine wpAny_done (by kernel_rfl) ?_ _
                clear u1 uf
                have hmm2 := (show m + 1 ≤ 32 ∧ SmF (fs ++ [fq]) from ⟨by omega, sm_snoc hmm.2 hsz⟩)
                clear hmm
                have hmm := hmm2
                clear hmm2
                have r0 := S7.out.r.cell
                have rf := S7.out.r.frozen
                have g0 := S7.out.g.cell
                have gl := S7.out.g.lt
                have HF := hideIt S7.out.fin
                have s1 := S7.out.fin.2.2.cell
                clear S7
                go_wp2
                exact bodyPost_ret (v := .agg #[.slice (some ⟨g6, 0, none⟩) (m + 1) c6]) (by simp [results, Try.results14, go_sem, s1]) rfl ⟨_, _, _, _, hmm, rfl, HF.out.1, HF.out.2.1⟩
              · go_simp
                refine hK _ _ ?_
                clear hK K
                try simp only [Act.put, List.getElem_toArray, List.getElem_cons_succ, List.getElem_cons_zero, List.setIfInBounds_toArray, List.set_cons_zero, List.set_cons_succ]
                refine wpAny_ready (rs := [1, 6]) (by kernel_rfl) (by simp) ?_
                refine AllReady.cons rfl (fun K hK => ?_) (AllReady.cons rfl (fun K hK => ?_) AllReady.nil)
                · go_simp
                  refine hK _ _ ?_
                  clear hK K
                  try simp only [Act.put, List.getElem_toArray, List.getElem_cons_succ, List.getElem_cons_zero, List.setIfInBounds_toArray, List.set_cons_zero, List.set_cons_succ]
                  refine wpAny_ready (rs := [6]) (by kernel_rfl) (by simp) ?_
                  refine AllReady.cons rfl (fun K hK => ?_) AllReady.nil
                  go_simp
                  refine hK _ _ ?_
                  clear hK K
                  try simp only [Act.put, List.getElem_toArray, List.getElem_cons_succ, List.getElem_cons_zero, List.setIfInBounds_toArray, List.set_cons_zero, List.set_cons_succ]
                  refine wpAny_ready (rs := [7]) (by kernel_rfl) (by simp) ?_
                  refine AllReady.cons rfl (fun K hK => ?_) AllReady.nil
                  go_simp
                  refine hK _ _ ?_
                  clear hK K
                  try simp only [Act.put, List.getElem_toArray, List.getElem_cons_succ, List.getElem_cons_zero, List.setIfInBounds_toArray, List.set_cons_zero, List.set_cons_succ]
                  refine wpAny_ready (rs := [8]) (by kernel_rfl) (by simp) ?_
                  refine AllReady.cons rfl (fun K hK => ?_) AllReady.nil
                  refine step_append_lies _ rfl _ _ 24 rfl (w.heap.size + 1) 49 i0 _ 3 40 Try.underlying24 hi hz0 hz1 hz2 rfl (by decide) _ m _ rfl Da.out.own ⟨w4.heap.size, 0, none⟩ 1 1 [.string fq.name, .string fq.text, .int .i64 fq.kept] rfl rfl (World.news_of_block (cs := #[.string fq.name, .string fq.text, .int .i64 fq.kept]) (t := 49) (fr := (0, 0)) (heap_alloc_new w4 _)) (by intro u hu; simp at hu; rcases hu with rfl | rfl | rfl <;> rfl) (by omega) (by unfold maxLen; omega) (by omega) (by have := D.out.g.lt; have := D.out.hX; show w.heap.size + 1 ≤ (w4.alloc _).heap.size; simp; omega) (w4.heap.size + 1) (by show (w4.alloc _).heap.size = _; simp) ?_
                  intro g6 c6 w6 ho6 hg6 _ _
                  have hx6 := Da.out.app (hs := fs ++ [fq]) hg6 (by rw [fcells_snoc]; exact ho6)
                  have u1 := hx6.1.cell
                  have uf := hx6.1.frozen
                  have S7 := hideIt hx6.2
                  clear ho6 hg6 Da hx6 kXa kX n0 n1 n2 D CT
                  refine hK _ _ ?_
                  clear hK K
                  try simp only [Act.put, List.getElem_toArray, List.getElem_cons_succ, List.getElem_cons_zero, List.setIfInBounds_toArray, List.set_cons_zero, List.set_cons_succ]
                  refine wpAny_ready (rs := [9]) (by kernel_rfl) (by simp) ?_
                  refine AllReady.cons rfl (fun K hK => ?_) AllReady.nil
                  go_simp
                  refine hK _ _ ?_
                  clear hK K
                  try simp only [Act.put, List.getElem_toArray, List.getElem_cons_succ, List.getElem_cons_zero, List.setIfInBounds_toArray, List.set_cons_zero, List.set_cons_succ]
                  refine wpAny_ready (rs := [10]) (by kernel_rfl) (by simp) ?_
                  refine AllReady.cons rfl (fun K hK => ?_) AllReady.nil
                  go_simp
                  refine hK _ _ ?_
                  clear hK K
                  try simp only [Act.put, List.getElem_toArray, List.getElem_cons_succ, List.getElem_cons_zero, List.setIfInBounds_toArray, List.set_cons_zero, List.set_cons_succ]
                  refine wpAny_done (by kernel_rfl) ?_ _
                  clear u1 uf
                  have hmm2 := (show m + 1 ≤ 32 ∧ SmF (fs ++ [fq]) from ⟨by omega, sm_snoc hmm.2 hsz⟩)
                  clear hmm
                  have hmm := hmm2
                  clear hmm2
                  have r0 := S7.out.r.cell
                  have rf := S7.out.r.frozen
                  have g0 := S7.out.g.cell
                  have gl := S7.out.g.lt
                  have HF := hideIt S7.out.fin
                  have s1 := S7.out.fin.2.2.cell
                  clear S7
                  go_wp2
                  exact bodyPost_ret (v := .agg #[.slice (some ⟨g6, 0, none⟩) (m + 1) c6]) (by simp [results, Try.results14, go_sem, s1]) rfl ⟨_, _, _, _, hmm, rfl, HF.out.1, HF.out.2.1⟩
                · go_simp
                  refine hK _ _ ?_
                  clear hK K
                  try simp only [Act.put, List.getElem_toArray, List.getElem_cons_succ, List.getElem_cons_zero, List.setIfInBounds_toArray, List.set_cons_zero, List.set_cons_succ]
                  refine wpAny_ready (rs := [1, 7]) (by kernel_rfl) (by simp) ?_
                  refine AllReady.cons rfl (fun K hK => ?_) (AllReady.cons rfl (fun K hK => ?_) AllReady.nil)
                  · go_simp
                    refine hK _ _ ?_
                    clear hK K
                    try simp only [Act.put, List.getElem_toArray, List.getElem_cons_succ, List.getElem_cons_zero, List.setIfInBounds_toArray, List.set_cons_zero, List.set_cons_succ]
                    refine wpAny_ready (rs := [7]) (by kernel_rfl) (by simp) ?_
                    refine AllReady.cons rfl (fun K hK => ?_) AllReady.nil
                    go_simp
                    refine hK _ _ ?_
                    clear hK K
                    try simp only [Act.put, List.getElem_toArray, List.getElem_cons_succ, List.getElem_cons_zero, List.setIfInBounds_toArray, List.set_cons_zero, List.set_cons_succ]
                    refine wpAny_ready (rs := [8]) (by kernel_rfl) (by simp) ?_
                    refine AllReady.cons rfl (fun K hK => ?_) AllReady.nil
                    refine step_append_lies _ rfl _ _ 24 rfl (w.heap.size + 1) 49 i0 _ 3 40 Try.underlying24 hi hz0 hz1 hz2 rfl (by decide) _ m _ rfl Da.out.own ⟨w4.heap.size, 0, none⟩ 1 1 [.string fq.name, .string fq.text, .int .i64 fq.kept] rfl rfl (World.news_of_block (cs := #[.string fq.name, .string fq.text, .int .i64 fq.kept]) (t := 49) (fr := (0, 0)) (heap_alloc_new w4 _)) (by intro u hu; simp at hu; rcases hu with rfl | rfl | rfl <;> rfl) (by omega) (by unfold maxLen; omega) (by omega) (by have := D.out.g.lt; have := D.out.hX; show w.heap.size + 1 ≤ (w4.alloc _).heap.size; simp; omega) (w4.heap.size + 1) (by show (w4.alloc _).heap.size = _; simp) ?_
                    intro g6 c6 w6 ho6 hg6 _ _
                    have hx6 := Da.out.app (hs := fs ++ [fq]) hg6 (by rw [fcells_snoc]; exact ho6)
                    have u1 := hx6.1.cell
                    have uf := hx6.1.frozen
                    have S7 := hideIt hx6.2
                    clear ho6 hg6 Da hx6 kXa kX n0 n1 n2 D CT
                    refine hK _ _ ?_
                    clear hK K
                    try simp only [Act.put, List.getElem_toArray, List.getElem_cons_succ, List.getElem_cons_zero, List.setIfInBounds_toArray, List.set_cons_zero, List.set_cons_succ]
                    refine wpAny_ready (rs := [9]) (by kernel_rfl) (by simp) ?_
                    refine AllReady.cons rfl (fun K hK => ?_) AllReady.nil
                    go_simp
                    refine hK _ _ ?_
                    clear hK K
                    try simp only [Act.put, List.getElem_toArray, List.getElem_cons_succ, List.getElem_cons_zero, List.setIfInBounds_toArray, List.set_cons_zero, List.set_cons_succ]
                    refine wpAny_ready (rs := [10]) (by kernel_rfl) (by simp) ?_
                    refine AllReady.cons rfl (fun K hK => ?_) AllReady.nil
                    go_simp
                    refine hK _ _ ?_
                    clear hK K
                    try simp only [Act.put, List.getElem_toArray, List.getElem_cons_succ, List.getElem_cons_zero, List.setIfInBounds_toArray, List.set_cons_zero, List.set_cons_succ]
                    refine wpAny_done (by kernel_rfl) ?_ _
                    clear u1 uf
                    have hmm2 := (show m + 1 ≤ 32 ∧ SmF (fs ++ [fq]) from ⟨by omega, sm_snoc hmm.2 hsz⟩)
                    clear hmm
                    have hmm := hmm2
                    clear hmm2
                    have r0 := S7.out.r.cell
                    have rf := S7.out.r.frozen
                    have g0 := S7.out.g.cell
                    have gl := S7.out.g.lt
                    have HF := hideIt S7.out.fin
                    have s1 := S7.out.fin.2.2.cell
                    clear S7
                    go_wp2
                    exact bodyPost_ret (v := .agg #[.slice (some ⟨g6, 0, none⟩) (m + 1) c6]) (by simp [results, Try.results14, go_sem, s1]) rfl ⟨_, _, _, _, hmm, rfl, HF.out.1, HF.out.2.1⟩
                  · go_simp
                    refine hK _ _ ?_
                    clear hK K
                    try simp only [Act.put, List.getElem_toArray, List.getElem_cons_succ, List.getElem_cons_zero, List.setIfInBounds_toArray, List.set_cons_zero, List.set_cons_succ]
                    refine wpAny_ready (rs := [1]) (by kernel_rfl) (by simp) ?_
                    refine AllReady.cons rfl (fun K hK => ?_) AllReady.nil
                    go_simp
                    refine hK _ _ ?_
                    clear hK K
                    try simp only [Act.put, List.getElem_toArray, List.getElem_cons_succ, List.getElem_cons_zero, List.setIfInBounds_toArray, List.set_cons_zero, List.set_cons_succ]
                    refine wpAny_ready (rs := [8]) (by kernel_rfl) (by simp) ?_
                    refine AllReady.cons rfl (fun K hK => ?_) AllReady.nil
                    refine step_append_lies _ rfl _ _ 24 rfl (w.heap.size + 1) 49 i0 _ 3 40 Try.underlying24 hi hz0 hz1 hz2 rfl (by decide) _ m _ rfl Da.out.own ⟨w4.heap.size, 0, none⟩ 1 1 [.string fq.name, .string fq.text, .int .i64 fq.kept] rfl rfl (World.news_of_block (cs := #[.string fq.name, .string fq.text, .int .i64 fq.kept]) (t := 49) (fr := (0, 0)) (heap_alloc_new w4 _)) (by intro u hu; simp at hu; rcases hu with rfl | rfl | rfl <;> rfl) (by omega) (by unfold maxLen; omega) (by omega) (by have := D.out.g.lt; have := D.out.hX; show w.heap.size + 1 ≤ (w4.alloc _).heap.size; simp; omega) (w4.heap.size + 1) (by show (w4.alloc _).heap.size = _; simp) ?_
                    intro g6 c6 w6 ho6 hg6 _ _
                    have hx6 := Da.out.app (hs := fs ++ [fq]) hg6 (by rw [fcells_snoc]; exact ho6)
                    have u1 := hx6.1.cell
                    have uf := hx6.1.frozen
                    have S7 := hideIt hx6.2
                    clear ho6 hg6 Da hx6 kXa kX n0 n1 n2 D CT
                    refine hK _ _ ?_
                    clear hK K
                    try simp only [Act.put, List.getElem_toArray, List.getElem_cons_succ, List.getElem_cons_zero, List.setIfInBounds_toArray, List.set_cons_zero, List.set_cons_succ]
                    refine wpAny_ready (rs := [9]) (by kernel_rfl) (by simp) ?_
                    refine AllReady.cons rfl (fun K hK => ?_) AllReady.nil
                    go_simp
                    refine hK _ _ ?_
                    clear hK K
                    try simp only [Act.put, List.getElem_toArray, List.getElem_cons_succ, List.getElem_cons_zero, List.setIfInBounds_toArray, List.set_cons_zero, List.set_cons_succ]
                    refine wpAny_ready (rs := [10]) (by kernel_rfl) (by simp) ?_
                    refine AllReady.cons rfl (fun K hK => ?_) AllReady.nil
                    go_simp
                    refine hK _ _ ?_
                    clear hK K
                    try simp only [Act.put, List.getElem_toArray, List.getElem_cons_succ, List.getElem_cons_zero, List.setIfInBounds_toArray, List.set_cons_zero, List.set_cons_succ]
                    refine wpAny_done (by kernel_rfl) ?_ _
                    clear u1 uf
                    have hmm2 := (show m + 1 ≤ 32 ∧ SmF (fs ++ [fq]) from ⟨by omega, sm_snoc hmm.2 hsz⟩)
                    clear hmm
                    have hmm := hmm2
                    clear hmm2
                    have r0 := S7.out.r.cell
                    have rf := S7.out.r.frozen
                    have g0 := S7.out.g.cell
                    have gl := S7.out.g.lt
                    have HF := hideIt S7.out.fin
                    have s1 := S7.out.fin.2.2.cell
                    clear S7
                    go_wp2
                    exact bodyPost_ret (v := .agg #[.slice (some ⟨g6, 0, none⟩) (m + 1) c6]) (by simp [results, Try.results14, go_sem, s1]) rfl ⟨_, _, _, _, hmm, rfl, HF.out.1, HF.out.2.1⟩
          · have e1 : ((s : Int) == 1) = false := by simpa using (show ¬ (s : Int) = 1 by omega)
            clear h1
            by_cases h2 : s = 2
            · have e2 : ((s : Int) == 2) = true := by simpa using (show (s : Int) = 2 by omega)
              clear h2
              have Dd := hideIt D.out.drew
              have Da := hideIt (D.out.alloc (.cells #[.string ⟨#[]⟩, .string ⟨#[49, 50, 51, 52, 53, 54, 55, 56]⟩, .string ⟨#[49, 50, 51, 52, 53, 54, 55, 56, 57]⟩] 9)).drew
              have hSd := Dd.out.g.cell
              have hSa := Da.out.g.cell
              have P1 : Hid (Calls Try.prog 34 #[.pointer (some ⟨G, 0, none⟩), .slice (some ⟨w4.heap.size, 0, none⟩) 3 3] (w4.alloc (.cells #[.string ⟨#[]⟩, .string ⟨#[49, 50, 51, 52, 53, 54, 55, 56]⟩, .string ⟨#[49, 50, 51, 52, 53, 54, 55, 56, 57]⟩] 9)).drew fun e w' => ∃ x : ByteArray, x.size ≤ 100 ∧ e = .returned (.string x) ∧ Drawn (w4.alloc (.cells #[.string ⟨#[]⟩, .string ⟨#[49, 50, 51, 52, 53, 54, 55, 56]⟩, .string ⟨#[49, 50, 51, 52, 53, 54, 55, 56, 57]⟩] 9)).drew w' G a len cap) :=
                l01Pick_of (fun x => x.size ≤ 100) w4.heap.size 3 3 (by omega) (by omega) _ G a len cap hl Da.out.d.cur Da.out.d.code (by show w4.heap.size < (w4.alloc _).heap.size; simp) (by have := D.out.g.lt; omega) (three_of w4 ⟨#[]⟩ ⟨#[49, 50, 51, 52, 53, 54, 55, 56]⟩ ⟨#[49, 50, 51, 52, 53, 54, 55, 56, 57]⟩ (by decide) (by decide) (by decide) 9)
              go_upto_region 16 with fail
              go_region_held3 (fun u => u.cell? ⟨X, 0, none⟩ = some (.slice (some ⟨g, 0, none⟩) m c1))
                (first | exact hSd | exact hSa | exact hS9 | exact hS10)
                ((go_at_call 34; refine P1.out.mono ?_; rintro e w9 ⟨x, hx9, rfl, dr9⟩; have D9 := hideIt (Da.out.drawn dr9); have hS9 := D9.out.g.cell; have o9 := D9.out.own; have fz := o9.frozenAt (q * 3); have kc := (o9.cellAt (q * 3) (by omega)).trans (fcells_at fs q fq hfq).1; have D10 := hideIt (D9.out.cell (hs := fs.set q ⟨x, fq.text, fq.kept⟩) (j := q * 3) (x := .string x) (by rw [fcells_set0 fs q fq hfq x]; exact (o9.stored (q * 3) _).1)); have hS10 := D10.out.g.cell))
              all_goals
                clear hSd hSa hS9 hS10 P1 Da Dd o9 fz kc D9 D CT dr9
                have hmm2 := (show m ≤ 32 ∧ SmF (fs.set q ⟨x, fq.text, fq.kept⟩) from ⟨hmm.1, sm_set hmm.2 ⟨hx9, hsz.2⟩⟩)
                clear hmm
                have hmm := hmm2
                clear hmm2
                have r0 := D10.out.r.cell
                have rf := D10.out.r.frozen
                have g0 := D10.out.g.cell
                have gl := D10.out.g.lt
                have HF := hideIt D10.out.fin
                have s1 := D10.out.fin.2.2.cell
                clear D10
                go_wp2
                exact bodyPost_ret (v := .agg #[.slice (some ⟨g, 0, none⟩) m c1]) (by simp [results, Try.results14, go_sem, s1]) rfl ⟨_, _, _, _, hmm, rfl, HF.out.1, HF.out.2.1⟩
            · have e2 : ((s : Int) == 2) = false := by simpa using (show ¬ (s : Int) = 2 by omega)
              clear h2
              by_cases h3 : s = 3
              · have e3 : ((s : Int) == 3) = true := by simpa using (show (s : Int) = 3 by omega)
                clear h3
                obtain ⟨i0, hi, hz0, hz1, hz2⟩ := info_parts infoIF
                have x0 := D.out.g.cell
                have xf := D.out.g.frozen
                have xl := D.out.g.lt
                have E0 : LDS w G a len cap X [] (some ⟨w4.heap.size, 0, none⟩) 0 0 ((w4.setCell ⟨X, 0, none⟩ (.slice (some ⟨w4.heap.size, 0, none⟩) 0 0)).alloc (.cells #[] 49)) := by
                  rw [← World.setCell_alloc_past _ X 0 _ xl]
                  exact (D.out.alloc (.cells #[] 49)).turn (hs := []) (World.ownsRow_lit w4 #[] 0 (by have := D.out.g.lt; have := D.out.hX; omega) (by unfold maxLen; omega) (by simp))
                have E0' := hideIt E0
                clear E0
                go_wp2
                clear x0 xf xl
                go_loopw [7] (fun i wr => ∃ (j : Nat) (hs : List FileV) (ah : Option Addr) (mh ch : Nat), j ≤ 31 ∧ i = .int .i64 (j : Int) ∧ mh ≤ j ∧ Hid (SmF hs) ∧ Hid (LDS w G a len cap X hs ah mh ch wr)) (fun i _ => 32 - (intOf i).toNat)
                case atStart => exact ⟨0, [], _, 0, 0, by omega, rfl, by omega, (show SmF [] by simp [SmF]), E0'⟩
                case round =>
                  obtain ⟨j, hs, ah, mh, ch, hj, rfl, hmh, hRs, HE⟩ := hrel
                  clear E0'
                  have HX := hideIt (HB.out 2 (by omega) (by omega) wr HE.out.d)
                  go_wp2_with (go_at_call 29; refine HX.out.mono ?_; rintro e w5 ⟨y, hy, rfl, dr5⟩; refine Hid.out ?_)
                  refine (show ∀ {p : Prop}, p → Hid p from fun h => h) ?_
                  have E5 := hideIt (HE.out.drawn dr5)
                  clear HX dr5 HE
                  have hwr : IntKind.i64.wrap (30 + (y : Int)) = 30 + (y : Int) := by rw [IntKind.wrap_i64]; omega
                  by_cases hlt : j < 30 + y
                  · have d9 : decide ((j : Int) < 30 + (y : Int)) = true := decide_eq_true (by omega)
                    have E6 := hideIt E5.out.drew
                    have k6 := E6.out.g.cell
                    have hw9 : IntKind.i64.wrap (100 + (j : Int)) = 100 + (j : Int) := by rw [IntKind.wrap_i64]; omega
                    have HDc : Hid (Calls Try.prog 35 #[.int .i64 (100 + (j : Int))] w5.drew fun e w' => ∃ S : ByteArray, S.size ≤ 30 ∧ e = .returned (.string S) ∧ Below w5.drew.heap.size w5.drew w') := by
                      have h := sDecimal_pos (100 + j) (by omega) (by omega) w5.drew
                      rw [show ((100 + j : Nat) : Int) = 100 + (j : Int) by omega] at h
                      exact h.mono fun _ _ ⟨he, hb⟩ => ⟨_, by show (Lib.decDigits (100 + j)).toArray.size ≤ 30; rw [List.size_toArray, Go.Lib.decDigits_length]; have := Go.Lib.nDigits_le20 (100 + j) (by omega); omega, he, hb⟩
                    go_upto_region 22 with fail
                    refine wp_region_any (by kernel_rfl) ?_
                    change wpAny _ _ _ _ _ _ _ (World.drew _)
                    refine takeOp (i := 0) (v := ?_) rfl (by kernel_rfl) (by kernel_rfl) (by kernel_rfl) (fun _ _ _ h => h) (by kernel_rfl) ?_ ?_
                    rotate_left
                    · intro w; go_simp; try with_reducible rfl
                    try simp only [Act.put, List.getElem_toArray, List.getElem_cons_zero, List.setIfInBounds_toArray, List.set_cons_zero, List.set_cons_succ]
                    refine takeOp (i := 2) (v := ?_) rfl (by kernel_rfl) (by kernel_rfl) (by kernel_rfl) (fun _ _ _ h => h) (by kernel_rfl) ?_ ?_
                    rotate_left
                    · intro w; go_simp; try with_reducible rfl
                    try simp only [Act.put, List.getElem_toArray, List.getElem_cons_succ, List.getElem_cons_zero, List.setIfInBounds_toArray, List.set_cons_zero, List.set_cons_succ]
                    refine takeOp (i := 3) (v := ?_) rfl (by kernel_rfl) (by kernel_rfl) (by kernel_rfl) (fun _ _ _ h => h) (by kernel_rfl) ?_ ?_
                    rotate_left
                    · intro w; go_simp; try with_reducible rfl
                    try simp only [Act.put, List.getElem_toArray, List.getElem_cons_succ, List.getElem_cons_zero, List.setIfInBounds_toArray, List.set_cons_zero, List.set_cons_succ]
                    refine wpAny_ready (rs := [1, 4]) (by kernel_rfl) (by simp) ?_
                    refine AllReady.cons rfl (fun K hK => ?_) (AllReady.cons rfl (fun K hK => ?_) AllReady.nil)
                    · go_simp
                      refine hK _ _ ?_
                      clear hK K
                      try simp only [Act.put, List.getElem_toArray, List.getElem_cons_succ, List.getElem_cons_zero, List.setIfInBounds_toArray, List.set_cons_zero, List.set_cons_succ]
                      refine wpAny_ready (rs := [4]) (by kernel_rfl) (by simp) ?_
                      refine AllReady.cons rfl (fun K hK => ?_) AllReady.nil
                      rw [if_pos]
                      rotate_left
                      · kernel_rfl
                      go_wp2_with (go_at_call 35; refine HDc.out.mono ?_; rintro e w7 ⟨S, hS7, rfl, hb7⟩; refine Hid.out ?_)
                      refine (show ∀ {p : Prop}, p → Hid p from fun h => h) ?_
                      have E7 := hideIt (E6.out.up hb7)
                      have k7 := E7.out.g.cell
                      have Ea := hideIt (E7.out.alloc (.cells #[.string (⟨#[102]⟩ ++ S), .string .empty, .int .i64 0] 49))
                      have k8 := Ea.out.g.cell
                      have hnl : ¬ 9223372036854775807 < 1 + S.size := by omega
                      have k9 := E7.out.g.lt
                      clear hb7 HDc
                      refine hK _ _ ?_
                      clear hK K
                      try simp only [Act.put, List.getElem_toArray, List.getElem_cons_succ, List.getElem_cons_zero, List.setIfInBounds_toArray, List.set_cons_zero, List.set_cons_succ]
                      refine wpAny_ready (rs := [5]) (by kernel_rfl) (by simp) ?_
                      refine AllReady.cons rfl (fun K hK => ?_) AllReady.nil
                      go_simp
                      refine hK _ _ ?_
                      clear hK K
                      try simp only [Act.put, List.getElem_toArray, List.getElem_cons_succ, List.getElem_cons_zero, List.setIfInBounds_toArray, List.set_cons_zero, List.set_cons_succ]
                      refine wpAny_ready (rs := [6]) (by kernel_rfl) (by simp) ?_
                      refine AllReady.cons rfl (fun K hK => ?_) AllReady.nil
                      go_simp
                      refine hK _ _ ?_
                      clear hK K
                      try simp only [Act.put, List.getElem_toArray, List.getElem_cons_succ, List.getElem_cons_zero, List.setIfInBounds_toArray, List.set_cons_zero, List.set_cons_succ]
                      refine wpAny_ready (rs := [7]) (by kernel_rfl) (by simp) ?_
                      refine AllReady.cons rfl (fun K hK => ?_) AllReady.nil
                      go_simp
                      refine hK _ _ ?_
                      clear hK K
                      try simp only [Act.put, List.getElem_toArray, List.getElem_cons_succ, List.getElem_cons_zero, List.setIfInBounds_toArray, List.set_cons_zero, List.set_cons_succ]
                      refine wpAny_ready (rs := [8]) (by kernel_rfl) (by simp) ?_
                      refine AllReady.cons rfl (fun K hK => ?_) AllReady.nil
                      refine step_append_lies _ rfl _ _ 24 rfl (w.heap.size + 1) 49 i0 _ 3 40 Try.underlying24 hi hz0 hz1 hz2 rfl (by decide) _ mh _ rfl Ea.out.own ⟨w7.heap.size, 0, none⟩ 1 1 [.string (⟨#[102]⟩ ++ S), .string .empty, .int .i64 0] rfl rfl (World.news_of_block (cs := #[.string (⟨#[102]⟩ ++ S), .string .empty, .int .i64 0]) (t := 49) (fr := (0, 0)) (heap_alloc_new w7 _)) (by intro u hu; simp at hu; rcases hu with rfl | rfl | rfl <;> rfl) (by omega) (by unfold maxLen; omega) (by omega) (by have := E7.out.g.lt; have := E7.out.hX; simp; omega) (w7.heap.size + 1) (by simp) ?_
                      intro g9 c9 w9 ho9 hg9 _ _
                      have hx9 := Ea.out.app (hs := hs ++ [⟨⟨#[102]⟩ ++ S, .empty, 0⟩]) hg9 (by rw [fcells_snoc]; exact ho9)
                      have u1 := hx9.1.cell
                      have uf := hx9.1.frozen
                      have S9 := hideIt hx9.2
                      have HR9 : Hid (SmF (hs ++ [⟨⟨#[102]⟩ ++ S, .empty, 0⟩])) := sm_snoc hRs.out ⟨by show (⟨#[102]⟩ ++ S : ByteArray).size ≤ 100; rw [ByteArray.size_append]; show 1 + S.size ≤ 100; omega, by show (ByteArray.empty).size ≤ 30000; decide⟩
                      clear ho9 hg9 Ea E7 E6 hx9 k7 k8 k6 k9
                      refine hK _ _ ?_
                      clear hK K
                      try simp only [Act.put, List.getElem_toArray, List.getElem_cons_succ, List.getElem_cons_zero, List.setIfInBounds_toArray, List.set_cons_zero, List.set_cons_succ]
                      refine wpAny_ready (rs := [9]) (by kernel_rfl) (by simp) ?_
                      refine AllReady.cons rfl (fun K hK => ?_) AllReady.nil
                      go_simp
                      refine hK _ _ ?_
                      clear hK K
                      try simp only [Act.put, List.getElem_toArray, List.getElem_cons_succ, List.getElem_cons_zero, List.setIfInBounds_toArray, List.set_cons_zero, List.set_cons_succ]
                      refine wpAny_ready (rs := [10]) (by kernel_rfl) (by simp) ?_
                      refine AllReady.cons rfl (fun K hK => ?_) AllReady.nil
                      go_simp
                      refine hK _ _ ?_
                      clear hK K
                      try simp only [Act.put, List.getElem_toArray, List.getElem_cons_succ, List.getElem_cons_zero, List.setIfInBounds_toArray, List.set_cons_zero, List.set_cons_succ]
                      refine wpAny_done (by kernel_rfl) ?_ _
                      clear u1 uf
                      go_wp2
                      exact ⟨⟨j + 1, _, _, mh + 1, c9, by omega, by go_num, by omega, HR9, S9⟩, by simp [intOf]; omega⟩
                    · rw [if_pos]
                      rotate_left
                      · kernel_rfl
                      go_wp2_with (go_at_call 35; refine HDc.out.mono ?_; rintro e w7 ⟨S, hS7, rfl, hb7⟩; refine Hid.out ?_)
                      refine (show ∀ {p : Prop}, p → Hid p from fun h => h) ?_
                      have E7 := hideIt (E6.out.up hb7)
                      have k7 := E7.out.g.cell
                      have Ea := hideIt (E7.out.alloc (.cells #[.string (⟨#[102]⟩ ++ S), .string .empty, .int .i64 0] 49))
                      have k8 := Ea.out.g.cell
                      have hnl : ¬ 9223372036854775807 < 1 + S.size := by omega
                      have k9 := E7.out.g.lt
                      clear hb7 HDc
                      refine hK _ _ ?_
                      clear hK K
                      try simp only [Act.put, List.getElem_toArray, List.getElem_cons_succ, List.getElem_cons_zero, List.setIfInBounds_toArray, List.set_cons_zero, List.set_cons_succ]
                      refine wpAny_ready (rs := [1, 5]) (by kernel_rfl) (by simp) ?_
                      refine AllReady.cons rfl (fun K hK => ?_) (AllReady.cons rfl (fun K hK => ?_) AllReady.nil)
                      · go_simp
                        refine hK _ _ ?_
                        clear hK K
                        try simp only [Act.put, List.getElem_toArray, List.getElem_cons_succ, List.getElem_cons_zero, List.setIfInBounds_toArray, List.set_cons_zero, List.set_cons_succ]
                        refine wpAny_ready (rs := [5]) (by kernel_rfl) (by simp) ?_
                        refine AllReady.cons rfl (fun K hK => ?_) AllReady.nil
                        go_simp
                        refine hK _ _ ?_
                        clear hK K
                        try simp only [Act.put, List.getElem_toArray, List.getElem_cons_succ, List.getElem_cons_zero, List.setIfInBounds_toArray, List.set_cons_zero, List.set_cons_succ]
                        refine wpAny_ready (rs := [6]) (by kernel_rfl) (by simp) ?_
                        refine AllReady.cons rfl (fun K hK => ?_) AllReady.nil
                        go_simp
                        refine hK _ _ ?_
                        clear hK K
                        try simp only [Act.put, List.getElem_toArray, List.getElem_cons_succ, List.getElem_cons_zero, List.setIfInBounds_toArray, List.set_cons_zero, List.set_cons_succ]
                        refine wpAny_ready (rs := [7]) (by kernel_rfl) (by simp) ?_
                        refine AllReady.cons rfl (fun K hK => ?_) AllReady.nil
                        go_simp
                        refine hK _ _ ?_
                        clear hK K
                        try simp only [Act.put, List.getElem_toArray, List.getElem_cons_succ, List.getElem_cons_zero, List.setIfInBounds_toArray, List.set_cons_zero, List.set_cons_succ]
                        refine wpAny_ready (rs := [8]) (by kernel_rfl) (by simp) ?_
                        refine AllReady.cons rfl (fun K hK => ?_) AllReady.nil
                        refine step_append_lies _ rfl _ _ 24 rfl (w.heap.size + 1) 49 i0 _ 3 40 Try.underlying24 hi hz0 hz1 hz2 rfl (by decide) _ mh _ rfl Ea.out.own ⟨w7.heap.size, 0, none⟩ 1 1 [.string (⟨#[102]⟩ ++ S), .string .empty, .int .i64 0] rfl rfl (World.news_of_block (cs := #[.string (⟨#[102]⟩ ++ S), .string .empty, .int .i64 0]) (t := 49) (fr := (0, 0)) (heap_alloc_new w7 _)) (by intro u hu; simp at hu; rcases hu with rfl | rfl | rfl <;> rfl) (by omega) (by unfold maxLen; omega) (by omega) (by have := E7.out.g.lt; have := E7.out.hX; simp; omega) (w7.heap.size + 1) (by simp) ?_
                        intro g9 c9 w9 ho9 hg9 _ _
                        have hx9 := Ea.out.app (hs := hs ++ [⟨⟨#[102]⟩ ++ S, .empty, 0⟩]) hg9 (by rw [fcells_snoc]; exact ho9)
                        have u1 := hx9.1.cell
                        have uf := hx9.1.frozen
                        have S9 := hideIt hx9.2
                        have HR9 : Hid (SmF (hs ++ [⟨⟨#[102]⟩ ++ S, .empty, 0⟩])) := sm_snoc hRs.out ⟨by show (⟨#[102]⟩ ++ S : ByteArray).size ≤ 100; rw [ByteArray.size_append]; show 1 + S.size ≤ 100; omega, by show (ByteArray.empty).size ≤ 30000; decide⟩
                        clear ho9 hg9 Ea E7 E6 hx9 k7 k8 k6 k9
                        refine hK _ _ ?_
                        clear hK K
                        try simp only [Act.put, List.getElem_toArray, List.getElem_cons_succ, List.getElem_cons_zero, List.setIfInBounds_toArray, List.set_cons_zero, List.set_cons_succ]
                        refine wpAny_ready (rs := [9]) (by kernel_rfl) (by simp) ?_
                        refine AllReady.cons rfl (fun K hK => ?_) AllReady.nil
                        go_simp
                        refine hK _ _ ?_
                        clear hK K
                        try simp only [Act.put, List.getElem_toArray, List.getElem_cons_succ, List.getElem_cons_zero, List.setIfInBounds_toArray, List.set_cons_zero, List.set_cons_succ]
                        refine wpAny_ready (rs := [10]) (by kernel_rfl) (by simp) ?_
                        refine AllReady.cons rfl (fun K hK => ?_) AllReady.nil
                        go_simp
                        refine hK _ _ ?_
                        clear hK K
                        try simp only [Act.put, List.getElem_toArray, List.getElem_cons_succ, List.getElem_cons_zero, List.setIfInBounds_toArray, List.set_cons_zero, List.set_cons_succ]
                        refine wpAny_done (by kernel_rfl) ?_ _
                        clear u1 uf
                        go_wp2
                        exact ⟨⟨j + 1, _, _, mh + 1, c9, by omega, by go_num, by omega, HR9, S9⟩, by simp [intOf]; omega⟩
                      · go_simp
                        refine hK _ _ ?_
                        clear hK K
                        try simp only [Act.put, List.getElem_toArray, List.getElem_cons_succ, List.getElem_cons_zero, List.setIfInBounds_toArray, List.set_cons_zero, List.set_cons_succ]
                        refine wpAny_ready (rs := [1, 6]) (by kernel_rfl) (by simp) ?_
                        refine AllReady.cons rfl (fun K hK => ?_) (AllReady.cons rfl (fun K hK => ?_) AllReady.nil)
                        · go_simp
                          refine hK _ _ ?_
                          clear hK K
                          try simp only [Act.put, List.getElem_toArray, List.getElem_cons_succ, List.getElem_cons_zero, List.setIfInBounds_toArray, List.set_cons_zero, List.set_cons_succ]
                          refine wpAny_ready (rs := [6]) (by kernel_rfl) (by simp) ?_
                          refine AllReady.cons rfl (fun K hK => ?_) AllReady.nil
                          go_simp
                          refine hK _ _ ?_
                          clear hK K
                          try simp only [Act.put, List.getElem_toArray, List.getElem_cons_succ, List.getElem_cons_zero, List.setIfInBounds_toArray, List.set_cons_zero, List.set_cons_succ]
                          refine wpAny_ready (rs := [7]) (by kernel_rfl) (by simp) ?_
                          refine AllReady.cons rfl (fun K hK => ?_) AllReady.nil
                          go_simp
                          refine hK _ _ ?_
                          clear hK K
                          try simp only [Act.put, List.getElem_toArray, List.getElem_cons_succ, List.getElem_cons_zero, List.setIfInBounds_toArray, List.set_cons_zero, List.set_cons_succ]
                          refine wpAny_ready (rs := [8]) (by kernel_rfl) (by simp) ?_
                          refine AllReady.cons rfl (fun K hK => ?_) AllReady.nil
                          refine step_append_lies _ rfl _ _ 24 rfl (w.heap.size + 1) 49 i0 _ 3 40 Try.underlying24 hi hz0 hz1 hz2 rfl (by decide) _ mh _ rfl Ea.out.own ⟨w7.heap.size, 0, none⟩ 1 1 [.string (⟨#[102]⟩ ++ S), .string .empty, .int .i64 0] rfl rfl (World.news_of_block (cs := #[.string (⟨#[102]⟩ ++ S), .string .empty, .int .i64 0]) (t := 49) (fr := (0, 0)) (heap_alloc_new w7 _)) (by intro u hu; simp at hu; rcases hu with rfl | rfl | rfl <;> rfl) (by omega) (by unfold maxLen; omega) (by omega) (by have := E7.out.g.lt; have := E7.out.hX; simp; omega) (w7.heap.size + 1) (by simp) ?_
                          intro g9 c9 w9 ho9 hg9 _ _
                          have hx9 := Ea.out.app (hs := hs ++ [⟨⟨#[102]⟩ ++ S, .empty, 0⟩]) hg9 (by rw [fcells_snoc]; exact ho9)
                          have u1 := hx9.1.cell
                          have uf := hx9.1.frozen
                          have S9 := hideIt hx9.2
                          have HR9 : Hid (SmF (hs ++ [⟨⟨#[102]⟩ ++ S, .empty, 0⟩])) := sm_snoc hRs.out ⟨by show (⟨#[102]⟩ ++ S : ByteArray).size ≤ 100; rw [ByteArray.size_append]; show 1 + S.size ≤ 100; omega, by show (ByteArray.empty).size ≤ 30000; decide⟩
                          clear ho9 hg9 Ea E7 E6 hx9 k7 k8 k6 k9
                          refine hK _ _ ?_
                          clear hK K
                          try simp only [Act.put, List.getElem_toArray, List.getElem_cons_succ, List.getElem_cons_zero, List.setIfInBounds_toArray, List.set_cons_zero, List.set_cons_succ]
                          refine wpAny_ready (rs := [9]) (by kernel_rfl) (by simp) ?_
                          refine AllReady.cons rfl (fun K hK => ?_) AllReady.nil
                          go_simp
                          refine hK _ _ ?_
                          clear hK K
                          try simp only [Act.put, List.getElem_toArray, List.getElem_cons_succ, List.getElem_cons_zero, List.setIfInBounds_toArray, List.set_cons_zero, List.set_cons_succ]
                          refine wpAny_ready (rs := [10]) (by kernel_rfl) (by simp) ?_
                          refine AllReady.cons rfl (fun K hK => ?_) AllReady.nil
                          go_simp
                          refine hK _ _ ?_
                          clear hK K
                          try simp only [Act.put, List.getElem_toArray, List.getElem_cons_succ, List.getElem_cons_zero, List.setIfInBounds_toArray, List.set_cons_zero, List.set_cons_succ]
                          refine wpAny_done (by kernel_rfl) ?_ _
                          clear u1 uf
                          go_wp2
                          exact ⟨⟨j + 1, _, _, mh + 1, c9, by omega, by go_num, by omega, HR9, S9⟩, by simp [intOf]; omega⟩
                        · go_simp
                          refine hK _ _ ?_
                          clear hK K
                          try simp only [Act.put, List.getElem_toArray, List.getElem_cons_succ, List.getElem_cons_zero, List.setIfInBounds_toArray, List.set_cons_zero, List.set_cons_succ]
                          refine wpAny_ready (rs := [1, 7]) (by kernel_rfl) (by simp) ?_
                          refine AllReady.cons rfl (fun K hK => ?_) (AllReady.cons rfl (fun K hK => ?_) AllReady.nil)
                          · go_simp
                            refine hK _ _ ?_
                            clear hK K
                            try simp only [Act.put, List.getElem_toArray, List.getElem_cons_succ, List.getElem_cons_zero, List.setIfInBounds_toArray, List.set_cons_zero, List.set_cons_succ]
                            refine wpAny_ready (rs := [7]) (by kernel_rfl) (by simp) ?_
                            refine AllReady.cons rfl (fun K hK => ?_) AllReady.nil
                            go_simp
                            refine hK _ _ ?_
                            clear hK K
                            try simp only [Act.put, List.getElem_toArray, List.getElem_cons_succ, List.getElem_cons_zero, List.setIfInBounds_toArray, List.set_cons_zero, List.set_cons_succ]
                            refine wpAny_ready (rs := [8]) (by kernel_rfl) (by simp) ?_
                            refine AllReady.cons rfl (fun K hK => ?_) AllReady.nil
                            refine step_append_lies _ rfl _ _ 24 rfl (w.heap.size + 1) 49 i0 _ 3 40 Try.underlying24 hi hz0 hz1 hz2 rfl (by decide) _ mh _ rfl Ea.out.own ⟨w7.heap.size, 0, none⟩ 1 1 [.string (⟨#[102]⟩ ++ S), .string .empty, .int .i64 0] rfl rfl (World.news_of_block (cs := #[.string (⟨#[102]⟩ ++ S), .string .empty, .int .i64 0]) (t := 49) (fr := (0, 0)) (heap_alloc_new w7 _)) (by intro u hu; simp at hu; rcases hu with rfl | rfl | rfl <;> rfl) (by omega) (by unfold maxLen; omega) (by omega) (by have := E7.out.g.lt; have := E7.out.hX; simp; omega) (w7.heap.size + 1) (by simp) ?_
                            intro g9 c9 w9 ho9 hg9 _ _
                            have hx9 := Ea.out.app (hs := hs ++ [⟨⟨#[102]⟩ ++ S, .empty, 0⟩]) hg9 (by rw [fcells_snoc]; exact ho9)
                            have u1 := hx9.1.cell
                            have uf := hx9.1.frozen
                            have S9 := hideIt hx9.2
                            have HR9 : Hid (SmF (hs ++ [⟨⟨#[102]⟩ ++ S, .empty, 0⟩])) := sm_snoc hRs.out ⟨by show (⟨#[102]⟩ ++ S : ByteArray).size ≤ 100; rw [ByteArray.size_append]; show 1 + S.size ≤ 100; omega, by show (ByteArray.empty).size ≤ 30000; decide⟩
                            clear ho9 hg9 Ea E7 E6 hx9 k7 k8 k6 k9
                            refine hK _ _ ?_
                            clear hK K
                            try simp only [Act.put, List.getElem_toArray, List.getElem_cons_succ, List.getElem_cons_zero, List.setIfInBounds_toArray, List.set_cons_zero, List.set_cons_succ]
                            refine wpAny_ready (rs := [9]) (by kernel_rfl) (by simp) ?_
                            refine AllReady.cons rfl (fun K hK => ?_) AllReady.nil
                            go_simp
                            refine hK _ _ ?_
                            clear hK K
                            try simp only [Act.put, List.getElem_toArray, List.getElem_cons_succ, List.getElem_cons_zero, List.setIfInBounds_toArray, List.set_cons_zero, List.set_cons_succ]
                            refine wpAny_ready (rs := [10]) (by kernel_rfl) (by simp) ?_
                            refine AllReady.cons rfl (fun K hK => ?_) AllReady.nil
                            go_simp
                            refine hK _ _ ?_
                            clear hK K
                            try simp only [Act.put, List.getElem_toArray, List.getElem_cons_succ, List.getElem_cons_zero, List.setIfInBounds_toArray, List.set_cons_zero, List.set_cons_succ]
                            refine wpAny_done (by kernel_rfl) ?_ _
                            clear u1 uf
                            go_wp2
                            exact ⟨⟨j + 1, _, _, mh + 1, c9, by omega, by go_num, by omega, HR9, S9⟩, by simp [intOf]; omega⟩
                          · go_simp
                            refine hK _ _ ?_
                            clear hK K
                            try simp only [Act.put, List.getElem_toArray, List.getElem_cons_succ, List.getElem_cons_zero, List.setIfInBounds_toArray, List.set_cons_zero, List.set_cons_succ]
                            refine wpAny_ready (rs := [1]) (by kernel_rfl) (by simp) ?_
                            refine AllReady.cons rfl (fun K hK => ?_) AllReady.nil
                            go_simp
                            refine hK _ _ ?_
                            clear hK K
                            try simp only [Act.put, List.getElem_toArray, List.getElem_cons_succ, List.getElem_cons_zero, List.setIfInBounds_toArray, List.set_cons_zero, List.set_cons_succ]
                            refine wpAny_ready (rs := [8]) (by kernel_rfl) (by simp) ?_
                            refine AllReady.cons rfl (fun K hK => ?_) AllReady.nil
                            refine step_append_lies _ rfl _ _ 24 rfl (w.heap.size + 1) 49 i0 _ 3 40 Try.underlying24 hi hz0 hz1 hz2 rfl (by decide) _ mh _ rfl Ea.out.own ⟨w7.heap.size, 0, none⟩ 1 1 [.string (⟨#[102]⟩ ++ S), .string .empty, .int .i64 0] rfl rfl (World.news_of_block (cs := #[.string (⟨#[102]⟩ ++ S), .string .empty, .int .i64 0]) (t := 49) (fr := (0, 0)) (heap_alloc_new w7 _)) (by intro u hu; simp at hu; rcases hu with rfl | rfl | rfl <;> rfl) (by omega) (by unfold maxLen; omega) (by omega) (by have := E7.out.g.lt; have := E7.out.hX; simp; omega) (w7.heap.size + 1) (by simp) ?_
                            intro g9 c9 w9 ho9 hg9 _ _
                            have hx9 := Ea.out.app (hs := hs ++ [⟨⟨#[102]⟩ ++ S, .empty, 0⟩]) hg9 (by rw [fcells_snoc]; exact ho9)
                            have u1 := hx9.1.cell
                            have uf := hx9.1.frozen
                            have S9 := hideIt hx9.2
                            have HR9 : Hid (SmF (hs ++ [⟨⟨#[102]⟩ ++ S, .empty, 0⟩])) := sm_snoc hRs.out ⟨by show (⟨#[102]⟩ ++ S : ByteArray).size ≤ 100; rw [ByteArray.size_append]; show 1 + S.size ≤ 100; omega, by show (ByteArray.empty).size ≤ 30000; decide⟩
                            clear ho9 hg9 Ea E7 E6 hx9 k7 k8 k6 k9
                            refine hK _ _ ?_
                            clear hK K
                            try simp only [Act.put, List.getElem_toArray, List.getElem_cons_succ, List.getElem_cons_zero, List.setIfInBounds_toArray, List.set_cons_zero, List.set_cons_succ]
                            refine wpAny_ready (rs := [9]) (by kernel_rfl) (by simp) ?_
                            refine AllReady.cons rfl (fun K hK => ?_) AllReady.nil
                            go_simp
                            refine hK _ _ ?_
                            clear hK K
                            try simp only [Act.put, List.getElem_toArray, List.getElem_cons_succ, List.getElem_cons_zero, List.setIfInBounds_toArray, List.set_cons_zero, List.set_cons_succ]
                            refine wpAny_ready (rs := [10]) (by kernel_rfl) (by simp) ?_
                            refine AllReady.cons rfl (fun K hK => ?_) AllReady.nil
                            go_simp
                            refine hK _ _ ?_
                            clear hK K
                            try simp only [Act.put, List.getElem_toArray, List.getElem_cons_succ, List.getElem_cons_zero, List.setIfInBounds_toArray, List.set_cons_zero, List.set_cons_succ]
                            refine wpAny_done (by kernel_rfl) ?_ _
                            clear u1 uf
                            go_wp2
                            exact ⟨⟨j + 1, _, _, mh + 1, c9, by omega, by go_num, by omega, HR9, S9⟩, by simp [intOf]; omega⟩
                  · have d9 : decide ((j : Int) < 30 + (y : Int)) = false := decide_eq_false (by omega)
                    have hmm2 : mh ≤ 32 ∧ SmF hs := ⟨by omega, hRs.out⟩
                    clear hmm
                    have hmm := hmm2
                    clear hmm2
                    have r0 := E5.out.r.cell
                    have rf := E5.out.r.frozen
                    have g0 := E5.out.g.cell
                    have gl := E5.out.g.lt
                    have HF := hideIt E5.out.fin
                    have s1 := E5.out.fin.2.2.cell
                    clear E5
                    go_wp2
                    exact bodyPost_ret (v := .agg #[.slice ah mh ch]) (by simp [results, Try.results14, go_sem, s1]) rfl ⟨_, _, _, _, hmm, rfl, HF.out.1, HF.out.2.1⟩
              · have e3 : ((s : Int) == 3) = false := by simpa using (show ¬ (s : Int) = 3 by omega)
                clear h3
                by_cases h4 : s = 4
                · have e4 : ((s : Int) == 4) = true := by simpa using (show (s : Int) = 4 by omega)
                  clear h4
                  have Dd := hideIt D.out.drew
                  have hSd := Dd.out.g.cell
                  have P1 := hideIt (HB.out 3 (by omega) (by omega) _ Dd.out.d)
                  have P2 : Hid (∀ (x : Nat) (u : World), (x : Int) < 3 → Calls Try.prog 36 #[.int .i64 (19999 + (x : Int)), .int .u8 65] u fun e w' => ∃ S : ByteArray, S.size = 19999 + x ∧ e = .returned (.string S) ∧ Below u.heap.size u w') := fun x u hx => by
                    have h := l01Long_any (19999 + x) (by omega) 65 u
                    rw [show ((19999 + x : Nat) : Int) = 19999 + (x : Int) by omega, show (((65 : UInt8).toNat : Nat) : Int) = 65 from rfl] at h
                    exact h
                  go_upto_region 24 with fail
                  go_region_held3 (fun u => u.cell? ⟨X, 0, none⟩ = some (.slice (some ⟨g, 0, none⟩) m c1))
                    (first | exact hSd | exact hS8 | exact hS9 | exact hS10)
                    (first
                    | (go_at_call 29; refine P1.out.mono ?_; rintro e w8 ⟨y, hy8, rfl, dr8⟩; have D8 := hideIt (Dd.out.drawn dr8); have hS8 := D8.out.g.cell; have hwr : IntKind.i64.wrap (19999 + (y : Int)) = 19999 + (y : Int) := by rw [IntKind.wrap_i64]; omega)
                    | (go_at_call 36; refine (P2.out y _ hy8).mono ?_; rintro e w9 ⟨x, hx9, rfl, hb9⟩; have D9 := hideIt (D8.out.up hb9); have hS9 := D9.out.g.cell; have o9 := D9.out.own; have fz := o9.frozenAt (q * 3 + 1); have kc := (o9.cellAt (q * 3 + 1) (by omega)).trans (fcells_at fs q fq hfq).2.1; have D10 := hideIt (D9.out.cell (hs := fs.set q ⟨fq.name, x, fq.kept⟩) (j := q * 3 + 1) (x := .string x) (by rw [fcells_set1 fs q fq hfq x]; exact (o9.stored (q * 3 + 1) _).1)); have hS10 := D10.out.g.cell))
                  all_goals
                    clear hSd hS8 hS9 hS10 P1 P2 Dd o9 fz kc D9 D8 D CT dr8 hb9 hwr
                    have hmm2 := (show m ≤ 32 ∧ SmF (fs.set q ⟨fq.name, x, fq.kept⟩) from ⟨hmm.1, sm_set hmm.2 ⟨hsz.1, by show x.size ≤ 30000; omega⟩⟩)
                    clear hmm
                    have hmm := hmm2
                    clear hmm2
                    have r0 := D10.out.r.cell
                    have rf := D10.out.r.frozen
                    have g0 := D10.out.g.cell
                    have gl := D10.out.g.lt
                    have HF := hideIt D10.out.fin
                    have s1 := D10.out.fin.2.2.cell
                    clear D10
                    go_wp2
                    exact bodyPost_ret (v := .agg #[.slice (some ⟨g, 0, none⟩) m c1]) (by simp [results, Try.results14, go_sem, s1]) rfl ⟨_, _, _, _, hmm, rfl, HF.out.1, HF.out.2.1⟩
                · have e4 : ((s : Int) == 4) = false := by simpa using (show ¬ (s : Int) = 4 by omega)
                  clear h4
                  clear CT hfq hql hsz
                  have r0 := D.out.r.cell
                  have rf := D.out.r.frozen
                  have g0 := D.out.g.cell
                  have gl := D.out.g.lt
                  have HF := hideIt D.out.fin
                  have s1 := D.out.fin.2.2.cell
                  clear D
                  go_wp2
                  exact bodyPost_ret (v := .agg #[.slice (some ⟨g, 0, none⟩) m c1]) (by simp [results, Try.results14, go_sem, s1]) rfl ⟨_, _, _, _, hmm, rfl, HF.out.1, HF.out.2.1⟩
end Go.Proofs.Ythffflpclmpamaa
namespace Go.Proofs.Ythffflpclmpamaa
open Go.ChangeShapes Go.WideShapes Go.ChangeAt Go.RowKit

theorem cells9 : Try.prog.cellsOf 9 = 1 := by kernel_rfl
theorem cells3 : Try.prog.cellsOf 3 = 1 := by kernel_rfl

/-- a file as the machine bears it -/
def FitF (f : FileV) : Prop := f.name.size ≤ maxLen ∧ f.text.size ≤ maxLen ∧ (Lit.int .i64 f.kept).wf = true

theorem three {α : Type} {l : List α} (h : l.length = 3) : ∃ a b c, l = [a, b, c] := by
  cases l with
  | nil => simp at h
  | cons a l =>
    cases l with
    | nil => simp at h
    | cons b l =>
      cases l with
      | nil => simp at h
      | cons c l =>
        cases l with
        | nil => exact ⟨a, b, c, rfl⟩
        | cons d l => simp at h

end Go.Proofs.Ythffflpclmpamaa
namespace Go.Proofs.Ythffflpclmpamaa
open Go.RowKit

/-- what is left of a measure behind an act -/
def szA (left : Int) (x : ActV) : Int := if (x.name.size : Int) + x.text.size + x.to.size ≤ left then left - x.name.size - x.text.size - x.to.size else -1
theorem szA_no (left : Int) (x : ActV) (h : ¬ (x.name.size : Int) + x.text.size + x.to.size ≤ left) : szA left x = -1 := by unfold szA; rw [if_neg h]
theorem szA_yes (left : Int) (x : ActV) (h : (x.name.size : Int) + x.text.size + x.to.size ≤ left) : szA left x = left - x.name.size - x.text.size - x.to.size := by unfold szA; rw [if_pos h]

/-- an act's texts as the machine bears them -/
def BearA (x : ActV) : Prop := x.name.size ≤ maxLen ∧ x.text.size ≤ maxLen ∧ x.to.size ≤ maxLen

theorem four {α : Type} {l : List α} (h : l.length = 4) : ∃ a b c d, l = [a, b, c, d] := by
  cases l with
  | nil => simp at h
  | cons a l => obtain ⟨b, c, d, rfl⟩ := three (l := l) (by simpa using h); exact ⟨a, b, c, d, rfl⟩

end Go.Proofs.Ythffflpclmpamaa
