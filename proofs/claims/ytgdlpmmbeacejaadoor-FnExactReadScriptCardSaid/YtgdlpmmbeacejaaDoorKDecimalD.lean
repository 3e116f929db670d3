/- The walk of FnExactPartsOf: for every line the law returns true and nothing that was there has turned, where the library's table of blanks reads as the program's text lays it. Plain mathematics on reading a numeral: no program is named here. What the program's ReadDecimal answers at every text. Plain mathematics on figures: no program is named here. What l01Figure answers. What the specification's Decimal answers at every number: its numeral. -/
import Derived.Test.YtgdlpmmbeacejaaDoorKParts
import Derived.OpenShut
import Derived.WalkSpells
import Derived.WalkMore
import Derived.Lib.Strings
import Derived.WalkKit
import Derived.Laws.Concat
namespace Go.Proofs.YtgdlpmmbeacejaaDoor.C
open Go.RowKit Words

theorem sPartsOf_any (s : ByteArray) (w : World) : Calls Tryd.prog 10 #[.string s] w (PoOut s w) := by
  by_cases h : s.size ≤ 600
  · exact sPartsOf_short s h w
  · exact sPartsOf_long s (by omega) w

theorem iPartsOf_any (s : ByteArray) (w : World) (htab : Lib.TabIs Tryd.prog w "strings.asciiSpace" .u8 Lib.asciiSpaceTab) : Calls Tryd.prog 28 #[.string s] w (PoOut s w) := by
  by_cases h : s.size ≤ 600
  · cases hp : plainB s.data.toList with
    | true => exact iPartsOf_plain s h hp w htab
    | false => exact iPartsOf_bad s h hp w
  · exact iPartsOf_long s (by omega) w

/-- a row of no text -/
def OutZ (bf : Bool) (w : World) (e : Ending) (w' : World) : Prop := ∃ a c, e = .returned (.tuple #[.slice a 0 c, .bool bf]) ∧ Below w.heap.size w w'
/-- a row of n texts -/
def OutP (bf : Bool) (n : Nat) (ss : List ByteArray) (w : World) (e : Ending) (w' : World) : Prop :=
  ∃ g c, e = .returned (.tuple #[.slice (some ⟨g, 0, none⟩) n c, .bool bf]) ∧ w'.ownsRow w.heap.size 9 1 (.slice (some ⟨g, 0, none⟩) n c) n (ss.map Value.string) ∧ Below w.heap.size w w'

theorem outZ {s : ByteArray} {w : World} {e : Ending} {w' : World} (h : PoOut s w e w') (hz : (poR s.data.toList).getD [] = []) : OutZ (poR s.data.toList).isSome w e w' := by
  obtain ⟨v, he, ho, hb⟩ := h
  rw [hz] at ho
  rcases ho.2 with ⟨rfl, _⟩ | ⟨g, cap, cur, rfl, _⟩
  · exact ⟨_, _, he, hb⟩
  · exact ⟨_, _, he, hb⟩

theorem outP {s : ByteArray} {w : World} {e : Ending} {w' : World} (h : PoOut s w e w') (hz : 0 < ((poR s.data.toList).getD []).length) :
    OutP (poR s.data.toList).isSome ((poR s.data.toList).getD []).length ((poR s.data.toList).getD []) w e w' := by
  obtain ⟨v, he, ho, hb⟩ := h
  have ho' := ho
  rcases ho.2 with ⟨_, h0⟩ | ⟨g, cap, cur, rfl, _⟩
  · omega
  · exact ⟨g, cap, he, ho', hb⟩

theorem cells_of {w : World} {base g c n : Nat} {ss : List ByteArray} (hl : ss.length = n) (h : w.ownsRow base 9 1 (.slice (some ⟨g, 0, none⟩) n c) n (ss.map Value.string)) :
    ∀ j (hj : j < ss.length), w.cell? ⟨g, j, none⟩ = some (.string (ss[j])) := by
  intro j hj
  rw [h.cellAt j (by omega)]
  simp [hj]

theorem row_below {w w' : World} {base g c n : Nat} {xs : List Value} (h : w.ownsRow base 9 1 (.slice (some ⟨g, 0, none⟩) n c) n xs) (hb : Below w.heap.size w w') :
    w'.ownsRow base 9 1 (.slice (some ⟨g, 0, none⟩) n c) n xs :=
  h.kept (grown_of_below hb none) (.inr (by simp [Value.ownBlock]))

theorem hidIt {p : Prop} (h : p) : Hid p := h

end Go.Proofs.YtgdlpmmbeacejaaDoor.C
namespace Go.Proofs.YtgdlpmmbeacejaaDoor.Rd10
open Go.Lib (decDigits itoa nDigits)

def figs (l : List UInt8) : Prop := ∀ c ∈ l, 48 ≤ c.toNat ∧ c.toNat ≤ 57

def val10 (l : List UInt8) : Nat := l.foldl (fun a c => 10 * a + (c.toNat - 48)) 0

theorem val10_snoc (l : List UInt8) (c : UInt8) : val10 (l ++ [c]) = 10 * val10 l + (c.toNat - 48) := by simp [val10]

theorem val10_app (l r : List UInt8) : val10 l ≤ val10 (l ++ r) := by
  induction r generalizing l with
  | nil => simp
  | cons c r ih =>
    have := ih (l ++ [c])
    rw [val10_snoc] at this
    rw [show l ++ c :: r = (l ++ [c]) ++ r by simp]
    omega

theorem val10_lt : ∀ (n : Nat) (l : List UInt8), l.length = n → figs l → val10 l < 10 ^ n
  | 0, l, h, _ => by
    have : l = [] := List.length_eq_zero_iff.1 h
    subst this
    simp [val10]
  | n + 1, l, h, hf => by
    have hne : l ≠ [] := by intro e; subst e; simp at h
    have e := List.dropLast_concat_getLast hne
    have hl : l.dropLast.length = n := by simp [h]
    have ih := val10_lt n l.dropLast hl (fun c hc => hf c (List.dropLast_subset l hc))
    have hc := hf (l.getLast hne) (List.getLast_mem hne)
    rw [← e, val10_snoc, Nat.pow_succ]
    omega

theorem val10_bound (l : List UInt8) (h : l.length ≤ 10) (hf : figs l) : val10 l < 10000000000 := by
  have h1 := val10_lt l.length l rfl hf
  have h2 : 10 ^ l.length ≤ 10 ^ 10 := Nat.pow_le_pow_right (by omega) h
  have h3 : (10 : Nat) ^ 10 = 10000000000 := by decide
  omega

theorem dec_small (u : Nat) (h : u < 10) : decDigits u = [UInt8.ofNat (48 + u)] := Go.Lib.decDigits_one h
theorem dec_big (u : Nat) (h : ¬ u < 10) : decDigits u = decDigits (u / 10) ++ [UInt8.ofNat (48 + u % 10)] := by rw [decDigits, dif_neg h]

theorem ofNat_fig (d : Nat) (h : d < 10) : (UInt8.ofNat (48 + d)).toNat = 48 + d := by simp; omega

theorem dec_figs (u : Nat) : figs (decDigits u) := by
  induction u using Nat.strongRecOn with
  | _ u ih =>
    by_cases h : u < 10
    · rw [dec_small u h]
      intro c hc
      simp only [List.mem_singleton] at hc
      subst hc
      rw [ofNat_fig u h]
      omega
    · rw [dec_big u h]
      intro c hc
      rcases List.mem_append.1 hc with hc | hc
      · exact ih (u / 10) (by omega) c hc
      · simp only [List.mem_singleton] at hc
        subst hc
        rw [ofNat_fig _ (by omega)]
        omega

theorem dec_val (u : Nat) : val10 (decDigits u) = u := by
  induction u using Nat.strongRecOn with
  | _ u ih =>
    by_cases h : u < 10
    · rw [dec_small u h]
      show 10 * 0 + ((UInt8.ofNat (48 + u)).toNat - 48) = u
      rw [ofNat_fig u h]
      omega
    · rw [dec_big u h, val10_snoc, ih (u / 10) (by omega), ofNat_fig _ (by omega)]
      omega

theorem dec_ne (u : Nat) : 0 < (decDigits u).length := by
  by_cases h : u < 10
  · rw [dec_small u h]; simp
  · rw [dec_big u h]; simp

/-- the first figure of a number of two figures or more is no nought -/
theorem dec_head (u : Nat) (h : 1 ≤ u) (r : List UInt8) : decDigits u ≠ 48 :: r := by
  induction u using Nat.strongRecOn generalizing r with
  | _ u ih =>
    by_cases h1 : u < 10
    · rw [dec_small u h1]
      intro e
      simp only [List.cons.injEq] at e
      have := congrArg UInt8.toNat e.1
      rw [ofNat_fig u h1] at this
      have h48 : (48 : UInt8).toNat = 48 := rfl
      omega
    · rw [dec_big u h1]
      intro e
      have hp := dec_ne (u / 10)
      cases hd : decDigits (u / 10) with
      | nil => rw [hd] at hp; simp at hp
      | cons a t =>
        rw [hd] at e
        simp only [List.cons_append, List.cons.injEq] at e
        exact ih (u / 10) (by omega) (by omega) t (by rw [hd, e.1])

theorem dec_length : ∀ (k u : Nat), u < 10 ^ (k + 1) → (decDigits u).length ≤ k + 1
  | 0, u, h => by rw [dec_small u (by simpa using h)]; simp
  | k + 1, u, h => by
    by_cases h1 : u < 10
    · rw [dec_small u h1]; simp
    · rw [dec_big u h1]
      have := dec_length k (u / 10) (by rw [Nat.pow_succ] at h; omega)
      simp
      omega

/-- the number that the text is -/
def rd (l : List UInt8) : Option Nat := if val10 l ≤ 1000000000 ∧ decDigits (val10 l) = l then some (val10 l) else none

theorem rd_yes (N : Nat) (l : List UInt8) (hN : N ≤ 1000000000) (h : decDigits N = l) : rd l = some N := by
  have hv : val10 l = N := by rw [← h]; exact dec_val N
  unfold rd
  rw [hv, if_pos ⟨hN, h⟩]

theorem rd_no (l : List UInt8) (h : ∀ N, N ≤ 1000000000 → decDigits N ≠ l) : rd l = none := by
  unfold rd
  rw [if_neg]
  intro hc
  exact h _ hc.1 hc.2

theorem rd_bad (l : List UInt8) (c : UInt8) (hc : c ∈ l) (hb : c.toNat < 48 ∨ 57 < c.toNat) : rd l = none :=
  rd_no l fun N _ e => by
    have := dec_figs N c (by rw [e]; exact hc)
    omega

theorem rd_nil : rd [] = none := rd_no _ fun N _ e => by have := dec_ne N; rw [e] at this; simp at this

theorem rd_nought (r : List UInt8) (h : r ≠ []) : rd (48 :: r) = none :=
  rd_no _ fun N _ e => by
    by_cases h1 : 1 ≤ N
    · exact dec_head N h1 r e
    · have : N = 0 := by omega
      subst this
      rw [dec_small 0 (by omega)] at e
      simp only [List.cons.injEq] at e
      exact h e.2.symm

theorem rd_great (p r : List UInt8) (h : 1000000000 < val10 p) : rd (p ++ r) = none :=
  rd_no _ fun N hN e => by
    have h1 := val10_app p r
    rw [← e, dec_val] at h1
    omega

theorem rd_long (l : List UInt8) (h : 10 < l.length) : rd l = none :=
  rd_no _ fun N hN e => by
    have h1 := dec_length 9 N (by have : (10 : Nat) ^ (9 + 1) = 10000000000 := by decide
                                  omega)
    rw [e] at h1
    omega

/-- one figure more -/
theorem dec_more (n : Nat) (c : UInt8) (h : 1 ≤ n) (h1 : 48 ≤ c.toNat) (h2 : c.toNat ≤ 57) : decDigits (n * 10 + (c.toNat - 48)) = decDigits n ++ [c] := by
  rw [dec_big _ (by omega)]
  have e1 : (n * 10 + (c.toNat - 48)) / 10 = n := by omega
  have e2 : (n * 10 + (c.toNat - 48)) % 10 = c.toNat - 48 := by omega
  rw [e1, e2]
  congr 2
  apply UInt8.toNat_inj.1
  rw [ofNat_fig _ (by omega)]
  omega

theorem dec_first (c : UInt8) (h1 : 48 ≤ c.toNat) (h2 : c.toNat ≤ 57) : decDigits (c.toNat - 48) = [c] := by
  rw [dec_small _ (by omega)]
  congr 1
  apply UInt8.toNat_inj.1
  rw [ofNat_fig _ (by omega)]
  omega

end Go.Proofs.YtgdlpmmbeacejaaDoor.Rd10
namespace Go.Proofs.YtgdlpmmbeacejaaDoor.C
open Go.RowKit Rd10
open Go.Lib (decDigits itoa)

/-- what a reader of a numeral answers -/
def rdV : Option Nat → Value
  | none => .tuple #[.int .i64 0, .bool false]
  | some n => .tuple #[.int .i64 (n : Int), .bool true]

theorem rbytes_snoc (s : ByteArray) (k : Nat) (h : k < s.size) : s.data.toList.take (k + 1) = s.data.toList.take k ++ [s[k]] := by
  rw [List.take_succ_eq_append_getElem (by simpa using h)]; rfl

theorem rbyte_mem (s : ByteArray) (k : Nat) (h : k < s.size) : s[k] ∈ s.data.toList := by
  have : s[k] = s.data.toList[k]'(by simpa using h) := rfl
  rw [this]
  exact List.getElem_mem _

/-- what is known of the loop behind k bytes -/
def Rk (s : ByteArray) (k m : Nat) : Prop := (k = 0 ∧ m = 0) ∨ (1 ≤ k ∧ decDigits m = s.data.toList.take k)

theorem Rk.step {s : ByteArray} {k m : Nat} (h : Rk s k m) (hlt : k < s.size) (h1 : 48 ≤ (s[k]).toNat) (h2 : (s[k]).toNat ≤ 57) (hn : k = 0 ∨ 1 ≤ m) :
    Rk s (k + 1) (m * 10 + ((s[k]).toNat - 48)) := by
  refine .inr ⟨by omega, ?_⟩
  rw [rbytes_snoc s k hlt]
  rcases h with ⟨rfl, rfl⟩ | ⟨hk, hd⟩
  · simpa using dec_first _ h1 h2
  · rw [dec_more m _ (by omega) h1 h2, hd]

theorem Rk.nought {s : ByteArray} {k m : Nat} (h : Rk s k m) (hlt : k < s.size) (hk : 0 < k) (hm : m ≤ 0) : rd s.data.toList = none := by
  have hm0 : m = 0 := by omega
  subst hm0
  rcases h with ⟨h0, _⟩ | ⟨_, hd⟩
  · omega
  · have hd' : decDigits 0 = [48] := by rw [dec_small 0 (by omega)]; rfl
    rw [hd'] at hd
    have hl := congrArg List.length hd
    simp at hl
    have e := List.take_append_drop k s.data.toList
    rw [← e, ← hd]
    refine rd_nought _ ?_
    intro hx
    have := congrArg List.length hx
    simp at this
    omega

theorem Rk.great {s : ByteArray} {k m : Nat} (h : Rk s k m) (hg : 1000000000 < m) : rd s.data.toList = none := by
  rcases h with ⟨_, h0⟩ | ⟨_, hd⟩
  · omega
  · rw [← List.take_append_drop k s.data.toList, ← hd]
    exact rd_great _ _ (by rw [dec_val]; exact hg)

theorem Rk.whole {s : ByteArray} {k m : Nat} (h : Rk s k m) (hk : 0 < k) (hs : ¬ k < s.size) (hm : m ≤ 1000000000) : rd s.data.toList = some m := by
  rcases h with ⟨h0, _⟩ | ⟨_, hd⟩
  · omega
  · rw [List.take_of_length_le (by simp; omega)] at hd
    exact rd_yes m _ hm hd

theorem rd_empty {s : ByteArray} (h : s.size ≤ 0) : rd s.data.toList = none := by
  have e : s.data.toList.length = s.size := by simp
  have : s.data.toList = [] := List.length_eq_zero_iff.1 (by omega)
  rw [this]
  exact rd_nil

set_option maxRecDepth 100000 in
set_option maxHeartbeats 4000000 in
theorem iReadDec_any (s : ByteArray) (h : s.size ≤ 1048576) (w : World) :
    Calls Tryd.prog 55 #[.string s] w fun e w' => e = .returned (rdV (rd s.data.toList)) ∧ w' = w := by
  go_enter Tryd.func55, Tryd.ntmps55
  go_wp2
  go_step3
  go_wp2
  go_step3
  go_wp2
  go_loop [4, 5] (fun n i => ∃ k m : Nat, k ≤ s.size ∧ m ≤ 1000000000 ∧ n = .int .i64 m ∧ i = .int .i64 k ∧ Rk s k m)
    (fun _ i => s.size - (intOf i).toNat)
  case atStart => exact ⟨0, 0, by omega, by omega, rfl, rfl, .inl ⟨rfl, rfl⟩⟩
  case round =>
    obtain ⟨k, m, hk, hm, rfl, rfl, hr⟩ := hrel
    by_cases hlt : k < s.size
    · have hc := UInt8.toNat_lt (s[k])
      by_cases hd : 48 ≤ (s[k]).toNat ∧ (s[k]).toNat ≤ 57
      · obtain ⟨h1, h2⟩ := hd
        have e1 : decide (((s[k]).toNat : Int) < 48) = false := by simp; omega
        have e2 : decide ((57 : Int) < ((s[k]).toNat : Int)) = false := by simp; omega
        by_cases hz : m ≤ 0
        · have e3 : ((m : Int) == 0) = true := by simp; omega
          by_cases hk0 : 0 < k
          · have HO : Hid _ := Rk.nought hr hlt hk0 hz
            go_wp2
            all_goals (try rw [Exit.noGoto_ret])
            all_goals go_ret2
            all_goals exact ⟨by rw [HO.out]; rfl, rfl⟩
          · have HS : Rk _ _ _ := Rk.step hr hlt h1 h2 (by omega)
            go_wp2
            go_round
            case rel => exact ⟨k + 1, m * 10 + ((s[k]).toNat - 48), by omega, by omega, congrArg (Value.int .i64) (by omega), by go_num, HS⟩
            case measure => simp [intOf]; omega
        · have e3 : ((m : Int) == 0) = false := by simp; omega
          have HS : Rk _ _ _ := Rk.step hr hlt h1 h2 (by omega)
          by_cases hg : (m : Int) * 10 + (((s[k]).toNat : Int) - 48) ≤ 1000000000
          · go_wp2
            go_round
            case rel => exact ⟨k + 1, m * 10 + ((s[k]).toNat - 48), by omega, by omega, congrArg (Value.int .i64) (by omega), by go_num, HS⟩
            case measure => simp [intOf]; omega
          · have HO : Hid _ := Rk.great HS (by omega)
            go_wp2
            all_goals (try rw [Exit.noGoto_ret])
            all_goals go_ret2
            all_goals exact ⟨by rw [HO.out]; rfl, rfl⟩
      · have HO : Hid (rd s.data.toList = none) := rd_bad _ _ (rbyte_mem s k hlt) (by omega)
        by_cases h1 : 48 ≤ (s[k]).toNat
        · have e1 : decide (((s[k]).toNat : Int) < 48) = false := by simp; omega
          have e2 : decide ((57 : Int) < ((s[k]).toNat : Int)) = true := by simp; omega
          go_wp2
          all_goals (try rw [Exit.noGoto_ret])
          all_goals go_ret2
          all_goals exact ⟨by rw [HO.out]; rfl, rfl⟩
        · have e1 : decide (((s[k]).toNat : Int) < 48) = true := by simp; omega
          go_wp2
          all_goals (try rw [Exit.noGoto_ret])
          all_goals go_ret2
          all_goals exact ⟨by rw [HO.out]; rfl, rfl⟩
    · by_cases hk0 : 0 < k
      · have HO : Hid _ := Rk.whole hr hk0 hlt hm
        go_wp2
        all_goals (try rw [Exit.noGoto_ret])
        all_goals go_ret2
        all_goals exact ⟨by rw [HO.out]; rfl, rfl⟩
      · have HO : Hid _ := rd_empty (s := s) (by omega)
        go_wp2
        all_goals (try rw [Exit.noGoto_ret])
        all_goals go_ret2
        all_goals exact ⟨by rw [HO.out]; rfl, rfl⟩

end Go.Proofs.YtgdlpmmbeacejaaDoor.C
namespace Go.Proofs.YtgdlpmmbeacejaaDoor.Figs

/-- the figure of a number from 0 to 15, as a number -/
def figI (x : Int) : Int := if x < 10 then 48 + x else 87 + x

theorem figI_bounds (x : Int) (h0 : 0 ≤ x) (h1 : x < 16) : 48 ≤ figI x ∧ figI x ≤ 102 := by
  unfold figI; split <;> omega

def fig (n : Nat) : UInt8 := UInt8.ofNat (figI n).toNat

theorem fig_toNat (n : Nat) (h : n < 16) : ((fig n).toNat : Int) = figI n := by
  have := figI_bounds n (by omega) (by omega)
  unfold fig
  simp
  omega

def hexOf (l : List UInt8) : List UInt8 := l.flatMap fun c => [fig (c.toNat / 16), fig (c.toNat % 16)]

theorem hexOf_length (l : List UInt8) : (hexOf l).length = 2 * l.length := by
  induction l with
  | nil => rfl
  | cons c l ih => simp only [hexOf, List.flatMap_cons, List.length_append, List.length_cons] at ih ⊢; simp only [List.length_nil]; omega

theorem hexOf_snoc (l : List UInt8) (c : UInt8) : hexOf (l ++ [c]) = hexOf l ++ [fig (c.toNat / 16), fig (c.toNat % 16)] := by
  simp [hexOf]

end Go.Proofs.YtgdlpmmbeacejaaDoor.Figs
namespace Go.Proofs.YtgdlpmmbeacejaaDoor.C
open Go.RowKit Figs

theorem l01Figure_any (x : Int) (h0 : 0 ≤ x) (h1 : x < 16) (w : World) :
    Calls Tryd.prog 50 #[.int .i64 x] w fun e w' => e = .returned (.int .u8 (figI x)) ∧ w' = w := by
  by_cases h : x < 10
  · have e : figI x = 48 + x := by unfold figI; rw [if_pos h]
    rw [e]
    go_enter Tryd.func50, Tryd.ntmps50
    go_wp2
    go_ret
    exact ⟨rfl, rfl⟩
  · have e : figI x = 97 + x - 10 := by unfold figI; rw [if_neg h]; omega
    rw [e]
    go_enter Tryd.func50, Tryd.ntmps50
    go_wp2
    go_ret
    exact ⟨rfl, rfl⟩

end Go.Proofs.YtgdlpmmbeacejaaDoor.C
namespace Go.Proofs.YtgdlpmmbeacejaaDoor.C
open Go.RowKit Figs Dg
open Go.Lib (decDigits itoa)

theorem fig_dec (d : Nat) (h : d < 10) : fig d = UInt8.ofNat (48 + d) := by
  unfold fig figI
  rw [if_pos (by omega)]
  congr 1

theorem conv_one (w : World) (b : UInt8) (x : Int) (hx : (b.toNat : Int) = x) :
    (convert 98 9 (.slice (some ⟨w.heap.size, 0, none⟩) 1 1)).run Tryd.prog (w.alloc (.cells #[.int .u8 x] 5)) = .ok (.string (one b)) (w.alloc (.cells #[.int .u8 x] 5)) := by
  subst hx
  refine run_convert_bytes_back (P := Tryd.prog) _ 98 9 5 ⟨w.heap.size, 0, none⟩ 1 [b] Tryd.underlying98 Tryd.underlying5 Tryd.underlying9 ?_
  intro j hj
  match j, hj with
  | 0, _ => exact one_new _ _ _ 0 _ rfl

set_option maxRecDepth 100000 in
set_option maxHeartbeats 2000000 in
theorem sDecimal_pos (U : Nat) (h0 : 0 < U) (h1 : U ≤ 9223372036854775807) (w : World) :
    Calls Tryd.prog 34 #[.int .i64 (U : Int)] w fun e w' => e = .returned (.string ⟨(decDigits U).toArray⟩) ∧ Below w.heap.size w w' := by
  have hl := dec_length U (by omega)
  have d1 : ((U : Int) == 0) = false := by simp; omega
  have d2 : decide ((U : Int) < 0) = false := by simp
  go_enter Tryd.func34, Tryd.ntmps34
  go_wp2
  go_loopw [0, 4] (fun n s wr => ∃ (u : Nat) (S : ByteArray), u ≤ U ∧ S.size ≤ 20 ∧ n = .int .i64 u ∧ s = .string S ∧ Hid (dg0 u ++ S.data.toList = decDigits U) ∧ Below w.heap.size w wr)
    (fun n _ _ => (intOf n).toNat)
  case atStart => exact ⟨U, ⟨#[]⟩, by omega, by show (0 : Nat) ≤ 20; omega, rfl, rfl, by show _ = _; rw [dg0_pos U (by omega)]; simp, Below.refl _ _⟩
  case round =>
    obtain ⟨u, S, hu, hS, rfl, rfl, hd, hb⟩ := hrel
    have hsz := hb.size
    by_cases hz : u ≤ 0
    · have e : S = ⟨(decDigits U).toArray⟩ := by
        have h2 := hd.out
        have h3 : u = 0 := by omega
        rw [h3] at h2
        apply ByteArray.ext
        apply Array.toList_inj.1
        simpa [dg0] using h2
      have HE : Hid _ := e
      have d3 : ((u : Int) != 0) = false := by simp; omega
      clear e hd
      go_wp2
      go_ret
      exact ⟨congrArg (fun x => Ending.returned (.string x)) HE.out, hb⟩
    · have d3 : ((u : Int) != 0) = true := by simp; omega
      have hm : u % 10 < 10 := Nat.mod_lt _ (by omega)
      have HC : Hid (∀ w : World, Calls Tryd.prog 50 #[.int .i64 ((u : Int) % 10)] w fun e w' => e = .returned (.int .u8 (figI ((u : Int) % 10))) ∧ w = w') := fun w => (l01Figure_any ((u : Int) % 10) (by omega) (by omega) w).mono fun _ _ h => ⟨h.1, h.2.symm⟩
      obtain ⟨b, hbv⟩ : ∃ b : UInt8, b = UInt8.ofNat (48 + u % 10) := ⟨_, rfl⟩
      have hcv := conv_one wr b (figI ((u : Int) % 10)) (by rw [hbv, ← fig_dec _ hm, fig_toNat _ (by omega)]; simp)
      have ha : (one b ++ S).size ≤ 20 := by
        have h2 := congrArg List.length hd.out
        rw [dg0_step u (by omega)] at h2
        simp at h2
        rw [one_app_size]
        omega
      have ho := one_size b
      have HD : Hid (dg0 (u / 10) ++ (one b ++ S).data.toList = decDigits U) := by
        show _ = _
        rw [one_app, ← hd.out, dg0_step u (by omega), hbv]
        simp
      have hadd := fun wx => run_string_add_sum (P := Tryd.prog) wx (one b) S (by omega)
      clear hd hbv
      go_wp2_with (go_at_call 50; refine (HC.out _).mono ?_; rintro e w' ⟨rfl, hw⟩; subst hw)
      go_roundw
      case rel => exact ⟨u / 10, one b ++ S, by omega, ha, by go_num, rfl, HD, hb.alloc hsz _⟩
      case measure => simp [intOf]; omega

set_option maxRecDepth 100000 in
set_option maxHeartbeats 2000000 in
theorem sDecimal_neg (U : Nat) (h0 : 0 < U) (h1 : U ≤ 9223372036854775808) (w : World) :
    Calls Tryd.prog 34 #[.int .i64 (-(U : Int))] w fun e w' => e = .returned (.string (one 45 ++ ⟨(decDigits U).toArray⟩)) ∧ Below w.heap.size w w' := by
  have hl := dec_length U (by omega)
  have d1 : (-(U : Int) == 0) = false := by simp; omega
  have d2 : decide (-(U : Int) < 0) = true := by simp; omega
  go_enter Tryd.func34, Tryd.ntmps34
  go_wp2
  go_loopw [0, 4] (fun n s wr => ∃ (u : Nat) (S : ByteArray), u ≤ U ∧ S.size ≤ 20 ∧ n = .int .i64 (-(u : Int)) ∧ s = .string S ∧ Hid (dg0 u ++ S.data.toList = decDigits U) ∧ Below w.heap.size w wr)
    (fun n _ _ => (intOf n).natAbs)
  case atStart => exact ⟨U, ⟨#[]⟩, by omega, by show (0 : Nat) ≤ 20; omega, rfl, rfl, by show _ = _; rw [dg0_pos U (by omega)]; simp, Below.refl _ _⟩
  case round =>
    obtain ⟨u, S, hu, hS, rfl, rfl, hd, hb⟩ := hrel
    have hsz := hb.size
    by_cases hz : u ≤ 0
    · have e : S = ⟨(decDigits U).toArray⟩ := by
        have h2 := hd.out
        have h3 : u = 0 := by omega
        rw [h3] at h2
        apply ByteArray.ext
        apply Array.toList_inj.1
        simpa [dg0] using h2
      have HE : Hid _ := e
      have d3 : (-(u : Int) != 0) = false := by simp; omega
      clear e hd
      go_wp2
      go_ret
      exact ⟨congrArg (fun x => Ending.returned (.string (one 45 ++ x))) HE.out, hb⟩
    · have d3 : (-(u : Int) != 0) = true := by simp; omega
      have t1 : (-(u : Int)).tmod 10 = -((u : Int) % 10) := by rw [Int.neg_tmod, Int.tmod_eq_emod_of_nonneg (by omega)]
      have t2 : (-(u : Int)).tdiv 10 = -((u : Int) / 10) := by rw [Int.neg_tdiv, Int.tdiv_eq_ediv_of_nonneg (by omega)]
      have hm : u % 10 < 10 := Nat.mod_lt _ (by omega)
      obtain ⟨b, hbv⟩ : ∃ b : UInt8, b = UInt8.ofNat (48 + u % 10) := ⟨_, rfl⟩
      have HV : Hid ((b.toNat : Int) = figI ((u : Int) % 10)) := by show _ = _; rw [hbv, ← fig_dec _ hm, fig_toNat _ (by omega)]; simp
      have ha : (one b ++ S).size ≤ 20 := by
        have h2 := congrArg List.length hd.out
        rw [dg0_step u (by omega)] at h2
        simp at h2
        rw [one_app_size]
        omega
      have ho := one_size b
      have HD : Hid (dg0 (u / 10) ++ (one b ++ S).data.toList = decDigits U) := by
        show _ = _
        rw [one_app, ← hd.out, dg0_step u (by omega), hbv]
        simp
      have hadd := fun wx => run_string_add_sum (P := Tryd.prog) wx (one b) S (by omega)
      clear hd hbv
      by_cases hm0 : u % 10 ≤ 0
      · have HC : Hid (∀ w : World, Calls Tryd.prog 50 #[.int .i64 (-((u : Int) % 10))] w fun e w' => e = .returned (.int .u8 (figI (-((u : Int) % 10)))) ∧ w = w') := fun w => (l01Figure_any (-((u : Int) % 10)) (by omega) (by omega) w).mono fun _ _ h => ⟨h.1, h.2.symm⟩
        have hcv := conv_one wr b (figI (-((u : Int) % 10))) (by rw [HV.out]; congr 1; omega)
        go_wp2_with (go_at_call 50; refine (HC.out _).mono ?_; rintro e w' ⟨rfl, hw⟩; subst hw)
        go_roundw
        case rel => exact ⟨u / 10, one b ++ S, by omega, ha, congrArg (Value.int .i64) (by omega), rfl, HD, hb.alloc hsz _⟩
        case measure => simp [intOf]; omega
      · have HC : Hid (∀ w : World, Calls Tryd.prog 50 #[.int .i64 ((u : Int) % 10)] w fun e w' => e = .returned (.int .u8 (figI ((u : Int) % 10))) ∧ w = w') := fun w => (l01Figure_any ((u : Int) % 10) (by omega) (by omega) w).mono fun _ _ h => ⟨h.1, h.2.symm⟩
        have hcv := conv_one wr b (figI ((u : Int) % 10)) HV.out
        go_wp2_with (go_at_call 50; refine (HC.out _).mono ?_; rintro e w' ⟨rfl, hw⟩; subst hw)
        go_roundw
        case rel => exact ⟨u / 10, one b ++ S, by omega, ha, congrArg (Value.int .i64) (by omega), rfl, HD, hb.alloc hsz _⟩
        case measure => simp [intOf]; omega

theorem sDecimal_zero (w : World) :
    Calls Tryd.prog 34 #[.int .i64 0] w fun e w' => e = .returned (.string ⟨(decDigits 0).toArray⟩) ∧ Below w.heap.size w w' := by
  have e : decDigits 0 = [48] := by rw [Go.Lib.decDigits_one (by omega)]; rfl
  rw [e]
  go_enter Tryd.func34, Tryd.ntmps34
  go_wp2
  go_ret
  exact ⟨rfl, Below.refl _ _⟩

theorem sDecimal_any (n : Int) (h0 : -9223372036854775808 ≤ n) (h1 : n ≤ 9223372036854775807) (w : World) :
    Calls Tryd.prog 34 #[.int .i64 n] w fun e w' => e = .returned (.string ⟨(itoa n).toArray⟩) ∧ Below w.heap.size w w' := by
  by_cases hz : n = 0
  · subst hz
    exact sDecimal_zero w
  · by_cases hp : 0 ≤ n
    · obtain ⟨u, rfl⟩ := Int.eq_ofNat_of_zero_le hp
      have e : itoa (u : Int) = decDigits u := by unfold itoa; rw [if_neg (by omega)]; simp
      rw [e]
      exact sDecimal_pos u (by omega) (by omega) w
    · obtain ⟨u, hu⟩ := Int.eq_ofNat_of_zero_le (show 0 ≤ -n by omega)
      have hn : n = -(u : Int) := by omega
      subst hn
      have e : itoa (-(u : Int)) = 45 :: decDigits u := by unfold itoa; rw [if_pos (by omega)]; simp
      rw [e]
      have e2 : (⟨(45 :: decDigits u).toArray⟩ : ByteArray) = one 45 ++ ⟨(decDigits u).toArray⟩ := by
        apply ByteArray.ext
        apply Array.toList_inj.1
        rw [one_app]
      rw [e2]
      exact sDecimal_neg u (by omega) (by omega) w

end Go.Proofs.YtgdlpmmbeacejaaDoor.C
