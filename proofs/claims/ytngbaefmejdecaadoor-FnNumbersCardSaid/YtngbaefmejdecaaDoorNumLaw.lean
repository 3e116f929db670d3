/- The walk of FnNumbers: for every bytes the law returns true and nothing that was there has turned, where the library's table of powers reads as the program's text lays it. -/
import Derived.Test.YtngbaefmejdecaaDoorNum
import Derived.Test.YtngbaefmejdecaaDoorDraw1
import Derived.Test.YtngbaefmejdecaaDoorIReadShort
import Derived.Test.YtngbaefmejdecaaDoorShelfI
import Derived.Lib.AppendIntMem
namespace Go.Proofs.YtngbaefmejdecaaDoor
open Go.RowKit Vt Figs Uh Rd10
open Go.Lib (decDigits itoa)

/-- the number n in bytes -/
def nv (n : Int) : ByteArray := vtS n.toNat
/-- the number n in figures -/
def dv (n : Int) : ByteArray := ⟨(itoa n).toArray⟩
/-- a text's length in bytes -/
def lv (t : ByteArray) : ByteArray := vtS t.size
/-- a text in figures -/
def hv (t : ByteArray) : ByteArray := ⟨(hexOf t.data.toList).toArray⟩

theorem nv_size (n : Int) (h1 : n ≤ 1000000000) : (nv n).size ≤ 1000000001 := by
  have := vtS_size n.toNat
  show (vtS n.toNat).size ≤ _
  omega
theorem lv_size (t : ByteArray) : (lv t).size ≤ t.size + 1 := vtS_size t.size

theorem nv_short (n : Int) (h0 : 0 ≤ n) (h1 : n ≤ 1000000000) : (nv n).size ≤ 5 := by
  have h := vt_len 4 n.toNat (by have : (128 : Nat) ^ (4 + 1) = 34359738368 := by decide
                                 omega)
  have e : (nv n).size = (vt n.toNat).length := by simp [nv, vtS, ByteArray.size]
  omega

theorem c1 (n : Int) (h0 : 0 ≤ n) (h1 : n ≤ 1000000000) (W : World) : Calls Tryd.prog 6 #[.int .i64 n] W fun e w' => e = .returned (.tuple #[.string (nv n), .bool true]) ∧ Below W.heap.size W w' := by
  obtain ⟨N, rfl⟩ := Int.eq_ofNat_of_zero_le h0
  exact iVarText_yes N (by omega) W

theorem c2 (n : Int) (h0 : 0 ≤ n) (h1 : n ≤ 1000000000) (W : World) : Calls Tryd.prog 7 #[.string ((⟨#[120]⟩ ++ nv n) ++ ⟨#[121]⟩), .int .i64 1] W fun e w' => e = .returned (.tuple #[.int .i64 n, .int .i64 (1 + ((nv n).size : Int)), .bool true]) ∧ W = w' := by
  obtain ⟨N, rfl⟩ := Int.eq_ofNat_of_zero_le h0
  have hs := nv_short (N : Int) h0 h1
  have hz : (((⟨#[120]⟩ : ByteArray) ++ nv (N : Int)) ++ ⟨#[121]⟩).size ≤ 1048576 := by
    rw [app_size, app_size]
    show 1 + (nv (N : Int)).size + 1 ≤ _
    omega
  have h := iReadVar_any _ hz 1 W
  rw [rvI_mid 120 (nv (N : Int)) ⟨#[121]⟩ N (by omega) rfl] at h
  exact h.mono fun e w' hx => ⟨by rw [hx.1]; simp [rvV], hx.2.symm⟩

theorem c3 (n : Int) (h0 : 0 ≤ n) (h1 : n ≤ 1000000000) (W : World) (htab : Lib.TabIs Tryd.prog W "internal/strconv.uint64pow10" .u64 Lib.pow10Tab) :
    Calls Tryd.prog 9 #[.int .i64 n] W fun e w' => e = .returned (.string (dv n)) ∧ Below W.heap.size W w' := by
  have HT := hideIt (Tryd.strconv_Itoa n (by omega) (by omega) W htab)
  clear htab
  go_enter Tryd.func9, Tryd.ntmps9
  go_wp2_with (go_at_call 17; refine HT.out.mono ?_; rintro e w1 ⟨rfl, k, os, hw⟩; subst hw)
  go_ret
  exact ⟨rfl, Lib.below_grow _ _ (Nat.le_refl _) _ _⟩

theorem c4 (n : Int) (h0 : 0 ≤ n) (h1 : n ≤ 1000000000) (W : World) : Calls Tryd.prog 8 #[.string (dv n)] W fun e w' => e = .returned (.tuple #[.int .i64 n, .bool true]) ∧ W = w' := by
  obtain ⟨N, rfl⟩ := Int.eq_ofNat_of_zero_le h0
  have hl := itoa_len N (by omega)
  have e : (dv (N : Int)).size = (itoa (N : Int)).length := by simp [dv, ByteArray.size]
  have h := iReadDec_any (dv (N : Int)) (by omega) W
  have e2 : (dv (N : Int)).data.toList = itoa (N : Int) := rfl
  rw [e2, rd_itoa N (by omega)] at h
  exact h.mono fun e w' hx => ⟨hx.1, hx.2.symm⟩

theorem c5 (t : ByteArray) (ht : t.size ≤ 300) (W : World) : Calls Tryd.prog 11 #[.string t] W fun e w' => e = .returned (.tuple #[.string (lv t ++ t), .bool true]) ∧ Below W.heap.size W w' :=
  iShort_yes t (by omega) W

theorem c6 (t : ByteArray) (ht : t.size ≤ 300) (W : World) : Calls Tryd.prog 12 #[.string (lv t ++ t), .int .i64 0] W fun e w' => e = .returned (.tuple #[.string t, .int .i64 (((lv t).size : Int) + (t.size : Int)), .bool true]) ∧ Below W.heap.size W w' := by
  have hl := lv_size t
  have hs := app_size (lv t) t
  have h := iReadShort_yes (lv t ++ t) (by omega) 0 t.size (lv t).size (rvI_head (lv t) t t.size (by omega) rfl) (by omega) (by omega) W
  rw [cut_back] at h
  exact h

theorem c7 (t : ByteArray) (ht : t.size ≤ 300) (W : World) : Calls Tryd.prog 13 #[.string t] W fun e w' => e = .returned (.tuple #[.string (hv t), .bool true]) ∧ Below W.heap.size W w' :=
  iHex_yes t (by omega) W

theorem c8 (t : ByteArray) (ht : t.size ≤ 300) (W : World) : Calls Tryd.prog 14 #[.string (hv t)] W fun e w' => e = .returned (.tuple #[.string t, .bool true]) ∧ Below W.heap.size W w' := by
  have e : (hv t).size = (hexOf t.data.toList).length := by simp [hv, ByteArray.size]
  rw [hexOf_length] at e
  have e3 : t.data.toList.length = t.size := by simp
  have h := iUnhex_in (hv t) (by omega) W
  have e2 : (hv t).data.toList = hexOf t.data.toList := rfl
  rw [e2, uh_hex] at h
  exact h

theorem code_below {w w' : World} {a : Option Addr} {len : Nat} (h : Code w w.heap.size a len) (hb : Below w.heap.size w w') : Code w' w'.heap.size a len := by
  rcases h with h | ⟨b, off, ha, hbl, hn, hc⟩
  · exact .inl h
  · have := hb.size
    refine .inr ⟨b, off, ha, by omega, by omega, fun j hj => ?_⟩
    obtain ⟨z, hz, hcell⟩ := hc j hj
    exact ⟨z, hz, by rw [hb.cell hbl]; exact hcell⟩

set_option maxRecDepth 100000 in
set_option maxHeartbeats 8000000 in
theorem fnNumbers.walk (a : Option Addr) (len cap : Nat) (w : World) (hcode : Code w w.heap.size a len) (htab : Lib.TabIs Tryd.prog w "internal/strconv.uint64pow10" .u64 Lib.pow10Tab) :
    Calls Tryd.prog 3 #[.slice a len cap] w fun e w' => e = .returned (.bool true) ∧ Below w.heap.size w w' := by
  have HTab := hideIt (Lib.tabBelow_of_tabIs htab)
  have HCode := hideIt hcode
  clear htab hcode
  by_cases hl : len ≤ 1048576
  · have HBig : Hid (∀ W : World, Calls Tryd.prog 4 #[.slice a len cap] W fun e w' => e = .returned (.bool false) ∧ W = w') := fun W => by
      have := big_any W a len cap
      rw [show decide ((1048576 : Int) < (len : Int)) = false by simp; omega] at this
      exact this.mono fun _ _ h => ⟨h.1, h.2.symm⟩
    have HV := hideIt (drawVarText_any w a len cap hl HCode.out)
    go_enter Tryd.func3, Tryd.ntmps3
    go_wp2_with (go_at_call 4; refine (HBig.out _).mono ?_; rintro e w1 ⟨rfl, hw1⟩; subst hw1; refine Hid.out ?_)
    refine (show ∀ {p : Prop}, p → Hid p from fun h => h) ?_
    go_wp2_with (go_at_call 5; refine HV.out.mono ?_; rintro e w1 ⟨x, rfl, k1⟩; refine Hid.out ?_)
    refine (show ∀ {p : Prop}, p → Hid p from fun h => h) ?_
    clear HBig HV
    by_cases h0 : 0 ≤ x
    · have d0 : decide (x < 0) = false := by simp; omega
      by_cases h1 : x ≤ 1000000000
      · have d1 : decide ((1000000000 : Int) < x) = false := by simp; omega
        have HT1 := hideIt (fun W => c1 (x) h0 h1 W)
        have HT2 := hideIt (fun W => c2 (x) h0 h1 W)
        have HT3 := hideIt (fun W => c3 (x) h0 h1 W)
        have HT4 := hideIt (fun W => c4 (x) h0 h1 W)
        have hns := nv_short (x) h0 h1
        have hx1 : (⟨#[120]⟩ : ByteArray).size = 1 := rfl
        have hx2 : ((⟨#[120]⟩ : ByteArray) ++ nv (x)).size = 1 + (nv (x)).size := app_size _ _
        have ha1 := fun wx => run_string_add_sum (P := Tryd.prog) wx ⟨#[120]⟩ (nv (x)) (by omega)
        have ha2 := fun wx => run_string_add_sum (P := Tryd.prog) wx (⟨#[120]⟩ ++ nv (x)) ⟨#[121]⟩ (by rw [hx2]; show 1 + (nv (x)).size + 1 ≤ _; omega)
        clear hx1 hx2
        go_wp2_with (go_at_call 6; refine (HT1.out _).mono ?_; rintro e w2 ⟨rfl, hb2⟩; refine Hid.out ?_)
        refine (show ∀ {p : Prop}, p → Hid p from fun h => h) ?_
        have k2 := k1.trans (hb2.mono k1.size)
        clear hb2 k1 HT1
        go_wp2_with (go_at_call 7; refine (HT2.out _).mono ?_; rintro e w3 ⟨rfl, hw3⟩; subst hw3; refine Hid.out ?_)
        refine (show ∀ {p : Prop}, p → Hid p from fun h => h) ?_
        have HT3' := hideIt (HT3.out _ (HTab.out _ k2))
        clear HT3 HT2 ha1 ha2
        go_wp2_with (go_at_call 9; refine HT3'.out.mono ?_; rintro e w3 ⟨rfl, hb3⟩; refine Hid.out ?_)
        refine (show ∀ {p : Prop}, p → Hid p from fun h => h) ?_
        have k3 := k2.trans (hb3.mono k2.size)
        clear hb3 k2 HT3'
        go_wp2_with (go_at_call 8; refine (HT4.out _).mono ?_; rintro e w4 ⟨rfl, hw4⟩; subst hw4; refine Hid.out ?_)
        refine (show ∀ {p : Prop}, p → Hid p from fun h => h) ?_
        have HX := hideIt (drawHex_any w3 a len cap hl (code_below HCode.out k3))
        clear HT4
        go_wp2_with (go_at_call 10; refine HX.out.mono ?_; rintro e w4 ⟨S, hS, rfl, hb4⟩; refine Hid.out ?_)
        refine (show ∀ {p : Prop}, p → Hid p from fun h => h) ?_
        have k4 := k3.trans (hb4.mono k3.size)
        clear hb4 k3 HX
        by_cases h300 : S.size ≤ 300
        · have L5 := hideIt (fun W => c5 S h300 W)
          have L6 := hideIt (fun W => c6 S h300 W)
          have L7 := hideIt (fun W => c7 S h300 W)
          have L8 := hideIt (fun W => c8 S h300 W)
          have hls := lv_size S
          have hsz : (lv S ++ S).size = (lv S).size + (S).size := app_size _ _
          go_wp2_with (go_at_call 11; refine (L5.out _).mono ?_; rintro e w5 ⟨rfl, hb5⟩; refine Hid.out ?_)
          refine (show ∀ {p : Prop}, p → Hid p from fun h => h) ?_
          have k5 := k4.trans (hb5.mono k4.size)
          clear hb5 k4 L5
          go_wp2_with (go_at_call 12; refine (L6.out _).mono ?_; rintro e w6 ⟨rfl, hb6⟩; refine Hid.out ?_)
          refine (show ∀ {p : Prop}, p → Hid p from fun h => h) ?_
          have k6 := k5.trans (hb6.mono k5.size)
          clear hb6 k5 L6
          go_wp2_with (go_at_call 13; refine (L7.out _).mono ?_; rintro e w7 ⟨rfl, hb7⟩; refine Hid.out ?_)
          refine (show ∀ {p : Prop}, p → Hid p from fun h => h) ?_
          have k7 := k6.trans (hb7.mono k6.size)
          clear hb7 k6 L7
          go_wp2_with (go_at_call 14; refine (L8.out _).mono ?_; rintro e w8 ⟨rfl, hb8⟩; refine Hid.out ?_)
          refine (show ∀ {p : Prop}, p → Hid p from fun h => h) ?_
          have k8 := k7.trans (hb8.mono k7.size)
          clear hb8 k7 L8
          go_wp2
          go_ret
          exact ⟨rfl, k8⟩
        · have L5 := hideIt (fun W => c5 (⟨#[97, 98, 99]⟩ : ByteArray) (by show 3 ≤ 300; omega) W)
          have L6 := hideIt (fun W => c6 (⟨#[97, 98, 99]⟩ : ByteArray) (by show 3 ≤ 300; omega) W)
          have L7 := hideIt (fun W => c7 (⟨#[97, 98, 99]⟩ : ByteArray) (by show 3 ≤ 300; omega) W)
          have L8 := hideIt (fun W => c8 (⟨#[97, 98, 99]⟩ : ByteArray) (by show 3 ≤ 300; omega) W)
          have hls := lv_size (⟨#[97, 98, 99]⟩ : ByteArray)
          have hsz : (lv (⟨#[97, 98, 99]⟩ : ByteArray) ++ (⟨#[97, 98, 99]⟩ : ByteArray)).size = (lv (⟨#[97, 98, 99]⟩ : ByteArray)).size + ((⟨#[97, 98, 99]⟩ : ByteArray)).size := app_size _ _
          go_wp2_with (go_at_call 11; refine (L5.out _).mono ?_; rintro e w5 ⟨rfl, hb5⟩; refine Hid.out ?_)
          refine (show ∀ {p : Prop}, p → Hid p from fun h => h) ?_
          have k5 := k4.trans (hb5.mono k4.size)
          clear hb5 k4 L5
          go_wp2_with (go_at_call 12; refine (L6.out _).mono ?_; rintro e w6 ⟨rfl, hb6⟩; refine Hid.out ?_)
          refine (show ∀ {p : Prop}, p → Hid p from fun h => h) ?_
          have k6 := k5.trans (hb6.mono k5.size)
          clear hb6 k5 L6
          go_wp2_with (go_at_call 13; refine (L7.out _).mono ?_; rintro e w7 ⟨rfl, hb7⟩; refine Hid.out ?_)
          refine (show ∀ {p : Prop}, p → Hid p from fun h => h) ?_
          have k7 := k6.trans (hb7.mono k6.size)
          clear hb7 k6 L7
          go_wp2_with (go_at_call 14; refine (L8.out _).mono ?_; rintro e w8 ⟨rfl, hb8⟩; refine Hid.out ?_)
          refine (show ∀ {p : Prop}, p → Hid p from fun h => h) ?_
          have k8 := k7.trans (hb8.mono k7.size)
          clear hb8 k7 L8
          go_wp2
          go_ret
          exact ⟨rfl, k8⟩
      · have d1 : decide ((1000000000 : Int) < x) = true := by simp; omega
        clear h0 h1
        have h0 : (0 : Int) ≤ 12345 := by omega
        have h1 : (12345 : Int) ≤ 1000000000 := by omega
        have HT1 := hideIt (fun W => c1 (12345) h0 h1 W)
        have HT2 := hideIt (fun W => c2 (12345) h0 h1 W)
        have HT3 := hideIt (fun W => c3 (12345) h0 h1 W)
        have HT4 := hideIt (fun W => c4 (12345) h0 h1 W)
        have hns := nv_short (12345) h0 h1
        have hx1 : (⟨#[120]⟩ : ByteArray).size = 1 := rfl
        have hx2 : ((⟨#[120]⟩ : ByteArray) ++ nv (12345)).size = 1 + (nv (12345)).size := app_size _ _
        have ha1 := fun wx => run_string_add_sum (P := Tryd.prog) wx ⟨#[120]⟩ (nv (12345)) (by omega)
        have ha2 := fun wx => run_string_add_sum (P := Tryd.prog) wx (⟨#[120]⟩ ++ nv (12345)) ⟨#[121]⟩ (by rw [hx2]; show 1 + (nv (12345)).size + 1 ≤ _; omega)
        clear hx1 hx2
        go_wp2_with (go_at_call 6; refine (HT1.out _).mono ?_; rintro e w2 ⟨rfl, hb2⟩; refine Hid.out ?_)
        refine (show ∀ {p : Prop}, p → Hid p from fun h => h) ?_
        have k2 := k1.trans (hb2.mono k1.size)
        clear hb2 k1 HT1
        go_wp2_with (go_at_call 7; refine (HT2.out _).mono ?_; rintro e w3 ⟨rfl, hw3⟩; subst hw3; refine Hid.out ?_)
        refine (show ∀ {p : Prop}, p → Hid p from fun h => h) ?_
        have HT3' := hideIt (HT3.out _ (HTab.out _ k2))
        clear HT3 HT2 ha1 ha2
        go_wp2_with (go_at_call 9; refine HT3'.out.mono ?_; rintro e w3 ⟨rfl, hb3⟩; refine Hid.out ?_)
        refine (show ∀ {p : Prop}, p → Hid p from fun h => h) ?_
        have k3 := k2.trans (hb3.mono k2.size)
        clear hb3 k2 HT3'
        go_wp2_with (go_at_call 8; refine (HT4.out _).mono ?_; rintro e w4 ⟨rfl, hw4⟩; subst hw4; refine Hid.out ?_)
        refine (show ∀ {p : Prop}, p → Hid p from fun h => h) ?_
        have HX := hideIt (drawHex_any w3 a len cap hl (code_below HCode.out k3))
        clear HT4
        go_wp2_with (go_at_call 10; refine HX.out.mono ?_; rintro e w4 ⟨S, hS, rfl, hb4⟩; refine Hid.out ?_)
        refine (show ∀ {p : Prop}, p → Hid p from fun h => h) ?_
        have k4 := k3.trans (hb4.mono k3.size)
        clear hb4 k3 HX
        by_cases h300 : S.size ≤ 300
        · have L5 := hideIt (fun W => c5 S h300 W)
          have L6 := hideIt (fun W => c6 S h300 W)
          have L7 := hideIt (fun W => c7 S h300 W)
          have L8 := hideIt (fun W => c8 S h300 W)
          have hls := lv_size S
          have hsz : (lv S ++ S).size = (lv S).size + (S).size := app_size _ _
          go_wp2_with (go_at_call 11; refine (L5.out _).mono ?_; rintro e w5 ⟨rfl, hb5⟩; refine Hid.out ?_)
          refine (show ∀ {p : Prop}, p → Hid p from fun h => h) ?_
          have k5 := k4.trans (hb5.mono k4.size)
          clear hb5 k4 L5
          go_wp2_with (go_at_call 12; refine (L6.out _).mono ?_; rintro e w6 ⟨rfl, hb6⟩; refine Hid.out ?_)
          refine (show ∀ {p : Prop}, p → Hid p from fun h => h) ?_
          have k6 := k5.trans (hb6.mono k5.size)
          clear hb6 k5 L6
          go_wp2_with (go_at_call 13; refine (L7.out _).mono ?_; rintro e w7 ⟨rfl, hb7⟩; refine Hid.out ?_)
          refine (show ∀ {p : Prop}, p → Hid p from fun h => h) ?_
          have k7 := k6.trans (hb7.mono k6.size)
          clear hb7 k6 L7
          go_wp2_with (go_at_call 14; refine (L8.out _).mono ?_; rintro e w8 ⟨rfl, hb8⟩; refine Hid.out ?_)
          refine (show ∀ {p : Prop}, p → Hid p from fun h => h) ?_
          have k8 := k7.trans (hb8.mono k7.size)
          clear hb8 k7 L8
          go_wp2
          go_ret
          exact ⟨rfl, k8⟩
        · have L5 := hideIt (fun W => c5 (⟨#[97, 98, 99]⟩ : ByteArray) (by show 3 ≤ 300; omega) W)
          have L6 := hideIt (fun W => c6 (⟨#[97, 98, 99]⟩ : ByteArray) (by show 3 ≤ 300; omega) W)
          have L7 := hideIt (fun W => c7 (⟨#[97, 98, 99]⟩ : ByteArray) (by show 3 ≤ 300; omega) W)
          have L8 := hideIt (fun W => c8 (⟨#[97, 98, 99]⟩ : ByteArray) (by show 3 ≤ 300; omega) W)
          have hls := lv_size (⟨#[97, 98, 99]⟩ : ByteArray)
          have hsz : (lv (⟨#[97, 98, 99]⟩ : ByteArray) ++ (⟨#[97, 98, 99]⟩ : ByteArray)).size = (lv (⟨#[97, 98, 99]⟩ : ByteArray)).size + ((⟨#[97, 98, 99]⟩ : ByteArray)).size := app_size _ _
          go_wp2_with (go_at_call 11; refine (L5.out _).mono ?_; rintro e w5 ⟨rfl, hb5⟩; refine Hid.out ?_)
          refine (show ∀ {p : Prop}, p → Hid p from fun h => h) ?_
          have k5 := k4.trans (hb5.mono k4.size)
          clear hb5 k4 L5
          go_wp2_with (go_at_call 12; refine (L6.out _).mono ?_; rintro e w6 ⟨rfl, hb6⟩; refine Hid.out ?_)
          refine (show ∀ {p : Prop}, p → Hid p from fun h => h) ?_
          have k6 := k5.trans (hb6.mono k5.size)
          clear hb6 k5 L6
          go_wp2_with (go_at_call 13; refine (L7.out _).mono ?_; rintro e w7 ⟨rfl, hb7⟩; refine Hid.out ?_)
          refine (show ∀ {p : Prop}, p → Hid p from fun h => h) ?_
          have k7 := k6.trans (hb7.mono k6.size)
          clear hb7 k6 L7
          go_wp2_with (go_at_call 14; refine (L8.out _).mono ?_; rintro e w8 ⟨rfl, hb8⟩; refine Hid.out ?_)
          refine (show ∀ {p : Prop}, p → Hid p from fun h => h) ?_
          have k8 := k7.trans (hb8.mono k7.size)
          clear hb8 k7 L8
          go_wp2
          go_ret
          exact ⟨rfl, k8⟩
    · have d0 : decide (x < 0) = true := by simp; omega
      clear h0
      have h0 : (0 : Int) ≤ 12345 := by omega
      have h1 : (12345 : Int) ≤ 1000000000 := by omega
      have HT1 := hideIt (fun W => c1 (12345) h0 h1 W)
      have HT2 := hideIt (fun W => c2 (12345) h0 h1 W)
      have HT3 := hideIt (fun W => c3 (12345) h0 h1 W)
      have HT4 := hideIt (fun W => c4 (12345) h0 h1 W)
      have hns := nv_short (12345) h0 h1
      have hx1 : (⟨#[120]⟩ : ByteArray).size = 1 := rfl
      have hx2 : ((⟨#[120]⟩ : ByteArray) ++ nv (12345)).size = 1 + (nv (12345)).size := app_size _ _
      have ha1 := fun wx => run_string_add_sum (P := Tryd.prog) wx ⟨#[120]⟩ (nv (12345)) (by omega)
      have ha2 := fun wx => run_string_add_sum (P := Tryd.prog) wx (⟨#[120]⟩ ++ nv (12345)) ⟨#[121]⟩ (by rw [hx2]; show 1 + (nv (12345)).size + 1 ≤ _; omega)
      clear hx1 hx2
      go_wp2_with (go_at_call 6; refine (HT1.out _).mono ?_; rintro e w2 ⟨rfl, hb2⟩; refine Hid.out ?_)
      refine (show ∀ {p : Prop}, p → Hid p from fun h => h) ?_
      have k2 := k1.trans (hb2.mono k1.size)
      clear hb2 k1 HT1
      go_wp2_with (go_at_call 7; refine (HT2.out _).mono ?_; rintro e w3 ⟨rfl, hw3⟩; subst hw3; refine Hid.out ?_)
      refine (show ∀ {p : Prop}, p → Hid p from fun h => h) ?_
      have HT3' := hideIt (HT3.out _ (HTab.out _ k2))
      clear HT3 HT2 ha1 ha2
      go_wp2_with (go_at_call 9; refine HT3'.out.mono ?_; rintro e w3 ⟨rfl, hb3⟩; refine Hid.out ?_)
      refine (show ∀ {p : Prop}, p → Hid p from fun h => h) ?_
      have k3 := k2.trans (hb3.mono k2.size)
      clear hb3 k2 HT3'
      go_wp2_with (go_at_call 8; refine (HT4.out _).mono ?_; rintro e w4 ⟨rfl, hw4⟩; subst hw4; refine Hid.out ?_)
      refine (show ∀ {p : Prop}, p → Hid p from fun h => h) ?_
      have HX := hideIt (drawHex_any w3 a len cap hl (code_below HCode.out k3))
      clear HT4
      go_wp2_with (go_at_call 10; refine HX.out.mono ?_; rintro e w4 ⟨S, hS, rfl, hb4⟩; refine Hid.out ?_)
      refine (show ∀ {p : Prop}, p → Hid p from fun h => h) ?_
      have k4 := k3.trans (hb4.mono k3.size)
      clear hb4 k3 HX
      by_cases h300 : S.size ≤ 300
      · have L5 := hideIt (fun W => c5 S h300 W)
        have L6 := hideIt (fun W => c6 S h300 W)
        have L7 := hideIt (fun W => c7 S h300 W)
        have L8 := hideIt (fun W => c8 S h300 W)
        have hls := lv_size S
        have hsz : (lv S ++ S).size = (lv S).size + (S).size := app_size _ _
        go_wp2_with (go_at_call 11; refine (L5.out _).mono ?_; rintro e w5 ⟨rfl, hb5⟩; refine Hid.out ?_)
        refine (show ∀ {p : Prop}, p → Hid p from fun h => h) ?_
        have k5 := k4.trans (hb5.mono k4.size)
        clear hb5 k4 L5
        go_wp2_with (go_at_call 12; refine (L6.out _).mono ?_; rintro e w6 ⟨rfl, hb6⟩; refine Hid.out ?_)
        refine (show ∀ {p : Prop}, p → Hid p from fun h => h) ?_
        have k6 := k5.trans (hb6.mono k5.size)
        clear hb6 k5 L6
        go_wp2_with (go_at_call 13; refine (L7.out _).mono ?_; rintro e w7 ⟨rfl, hb7⟩; refine Hid.out ?_)
        refine (show ∀ {p : Prop}, p → Hid p from fun h => h) ?_
        have k7 := k6.trans (hb7.mono k6.size)
        clear hb7 k6 L7
        go_wp2_with (go_at_call 14; refine (L8.out _).mono ?_; rintro e w8 ⟨rfl, hb8⟩; refine Hid.out ?_)
        refine (show ∀ {p : Prop}, p → Hid p from fun h => h) ?_
        have k8 := k7.trans (hb8.mono k7.size)
        clear hb8 k7 L8
        go_wp2
        go_ret
        exact ⟨rfl, k8⟩
      · have L5 := hideIt (fun W => c5 (⟨#[97, 98, 99]⟩ : ByteArray) (by show 3 ≤ 300; omega) W)
        have L6 := hideIt (fun W => c6 (⟨#[97, 98, 99]⟩ : ByteArray) (by show 3 ≤ 300; omega) W)
        have L7 := hideIt (fun W => c7 (⟨#[97, 98, 99]⟩ : ByteArray) (by show 3 ≤ 300; omega) W)
        have L8 := hideIt (fun W => c8 (⟨#[97, 98, 99]⟩ : ByteArray) (by show 3 ≤ 300; omega) W)
        have hls := lv_size (⟨#[97, 98, 99]⟩ : ByteArray)
        have hsz : (lv (⟨#[97, 98, 99]⟩ : ByteArray) ++ (⟨#[97, 98, 99]⟩ : ByteArray)).size = (lv (⟨#[97, 98, 99]⟩ : ByteArray)).size + ((⟨#[97, 98, 99]⟩ : ByteArray)).size := app_size _ _
        go_wp2_with (go_at_call 11; refine (L5.out _).mono ?_; rintro e w5 ⟨rfl, hb5⟩; refine Hid.out ?_)
        refine (show ∀ {p : Prop}, p → Hid p from fun h => h) ?_
        have k5 := k4.trans (hb5.mono k4.size)
        clear hb5 k4 L5
        go_wp2_with (go_at_call 12; refine (L6.out _).mono ?_; rintro e w6 ⟨rfl, hb6⟩; refine Hid.out ?_)
        refine (show ∀ {p : Prop}, p → Hid p from fun h => h) ?_
        have k6 := k5.trans (hb6.mono k5.size)
        clear hb6 k5 L6
        go_wp2_with (go_at_call 13; refine (L7.out _).mono ?_; rintro e w7 ⟨rfl, hb7⟩; refine Hid.out ?_)
        refine (show ∀ {p : Prop}, p → Hid p from fun h => h) ?_
        have k7 := k6.trans (hb7.mono k6.size)
        clear hb7 k6 L7
        go_wp2_with (go_at_call 14; refine (L8.out _).mono ?_; rintro e w8 ⟨rfl, hb8⟩; refine Hid.out ?_)
        refine (show ∀ {p : Prop}, p → Hid p from fun h => h) ?_
        have k8 := k7.trans (hb8.mono k7.size)
        clear hb8 k7 L8
        go_wp2
        go_ret
        exact ⟨rfl, k8⟩
  · have HBig : Hid (∀ W : World, Calls Tryd.prog 4 #[.slice a len cap] W fun e w' => e = .returned (.bool true) ∧ W = w') := fun W => by
      have := big_any W a len cap
      rw [show decide ((1048576 : Int) < (len : Int)) = true by simp; omega] at this
      exact this.mono fun _ _ h => ⟨h.1, h.2.symm⟩
    go_enter Tryd.func3, Tryd.ntmps3
    go_wp2_with (go_at_call 4; refine (HBig.out _).mono ?_; rintro e w1 ⟨rfl, hw1⟩; subst hw1)
    go_ret
    exact ⟨rfl, Below.refl _ _⟩

end Go.Proofs.YtngbaefmejdecaaDoor
