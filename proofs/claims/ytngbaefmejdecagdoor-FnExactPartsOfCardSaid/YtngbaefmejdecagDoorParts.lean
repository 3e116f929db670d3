/- What isPlain and the two PartsOf answer at every line. -/
import Derived.Test.YtngbaefmejdecagDoorMarks
import Derived.Test.YtngbaefmejdecagDoorWords
import Derived.Test.YtngbaefmejdecagDoorShelfF
import Derived.Lib.Strings
import Derived.Lib.AppendIntMem
import Derived.Deep.AppendLies
namespace Go.Proofs.YtngbaefmejdecagDoor
open Go.RowKit Words
open Go.Lib (fields)

theorem info9 : (Tryd.prog.info? 9).map (fun i => (i.zero, i.size, i.bytes)) = some (some (.string ⟨#[]⟩), 1, 16) := by kernel_rfl

theorem pbyte (s : ByteArray) (k : Nat) (h : k < s.size) : s.data.toList[k]'(by simpa using h) = s[k] := rfl

set_option maxRecDepth 100000 in
set_option maxHeartbeats 1000000 in
theorem isPlain_any (s : ByteArray) (hs : s.size ≤ 1048576) (w : World) :
    Calls Tryd.prog 14 #[.string s] w fun e w' => e = .returned (.bool (plainB s.data.toList)) ∧ w' = w := by
  go_enter Tryd.func14, Tryd.ntmps14
  go_wp2
  go_loop [6] (fun i => ∃ k : Nat, k ≤ s.size ∧ i = .int .i64 k ∧ Hid (plainB (s.data.toList.take k) = true)) (fun i => s.size - (intOf i).toNat)
  case atStart => exact ⟨0, by omega, rfl, rfl⟩
  case round =>
    obtain ⟨k, hk, rfl, hp⟩ := hrel
    by_cases hlt : k < s.size
    · have hc := UInt8.toNat_lt (s[k])
      by_cases h1 : 32 ≤ (s[k]).toNat
      · have e1 : decide (((s[k]).toNat : Int) < 32) = false := by simp; omega
        by_cases h2 : (s[k]).toNat ≤ 126
        · have e2 : decide ((126 : Int) < ((s[k]).toNat : Int)) = false := by simp; omega
          have HP : Hid (plainB (s.data.toList.take (k + 1)) = true) := plainB_take _ k (by simpa using hlt) hp.out (by rw [pbyte s k hlt]; simp [plainC, h1, h2])
          go_wp2
          go_round
          case rel => exact ⟨k + 1, by omega, by go_num, HP⟩
          case measure => simp [intOf]; omega
        · have e2 : decide ((126 : Int) < ((s[k]).toNat : Int)) = true := by simp; omega
          have HP : Hid (plainB s.data.toList = false) := plainB_bad _ k (by simpa using hlt) (by rw [pbyte s k hlt]; simp [plainC]; omega)
          go_wp2
          go_ret
          exact ⟨by rw [HP.out]; rfl, rfl⟩
      · have e1 : decide (((s[k]).toNat : Int) < 32) = true := by simp; omega
        have HP : Hid (plainB s.data.toList = false) := plainB_bad _ k (by simpa using hlt) (by rw [pbyte s k hlt]; simp [plainC]; omega)
        go_wp2
        go_ret
        exact ⟨by rw [HP.out]; rfl, rfl⟩
    · have e : s.data.toList.take k = s.data.toList := List.take_of_length_le (by simp; omega)
      have HP : Hid (plainB s.data.toList = true) := by have := hp.out; rw [e] at this; exact this
      clear e
      go_wp2
      go_ret
      exact ⟨by rw [HP.out]; rfl, rfl⟩

theorem cut_text (s : ByteArray) (b k : Nat) : s.extract b k = mkB ((s.data.toList.drop b).take (k - b)) := by
  apply ByteArray.ext
  apply Array.toList_inj.1
  rw [Lib.extract_data]
  rfl

/-- the cells of the words -/
def wv (o : List (List UInt8)) : List Value := (o.map mkB).map Value.string
theorem wv_snoc (o : List (List UInt8)) (x : List UInt8) (S : ByteArray) (h : S = mkB x) : wv o ++ [Value.string S] = wv (o ++ [x]) := by subst h; simp [wv]

/-- what a parter of a line answers -/
def PoOut (s : ByteArray) (w : World) (e : Ending) (w' : World) : Prop :=
  ∃ v, e = .returned (.tuple #[v, .bool (poR s.data.toList).isSome]) ∧ Own w' w.heap.size v ((poR s.data.toList).getD []) ∧ Below w.heap.size w w'

theorem own_empty (w : World) (base : Nat) (h : base ≤ w.heap.size) : Own (w.alloc (.cells #[] 9)) base (.slice (some ⟨w.heap.size, 0, none⟩) 0 0) [] :=
  World.ownsRow_made _ _ _ h (by unfold maxLen; omega) rfl

theorem poOut_none {s : ByteArray} {w w' : World} {v : Value} (h : poR s.data.toList = none) (hown : Own w' w.heap.size v []) (hb : Below w.heap.size w w') : PoOut s w (.returned (.tuple #[v, .bool false])) w' :=
  ⟨v, by rw [h]; rfl, by rw [h]; exact hown, hb⟩
theorem poOut_some {s : ByteArray} {w w' : World} {v : Value} {ss : List ByteArray} (h : poR s.data.toList = some ss) (hown : Own w' w.heap.size v ss) (hb : Below w.heap.size w w') : PoOut s w (.returned (.tuple #[v, .bool true])) w' :=
  ⟨v, by rw [h]; rfl, by rw [h]; exact hown, hb⟩

theorem sPartsOf_long (s : ByteArray) (hs : 600 < s.size) (w : World) : Calls Tryd.prog 7 #[.string s] w (PoOut s w) := by
  have HO : Hid (poR s.data.toList = none) := poR_long _ (by simpa using hs)
  go_enter Tryd.func7, Tryd.ntmps7
  go_wp2
  go_ret2
  exact poOut_none HO.out (own_empty w _ (Nat.le_refl _)) ((Below.refl _ _).alloc (Nat.le_refl _) _)

theorem below_app9 {B : Nat} {w wr w1 : World} {v : Value} {n : Nat} {xs : List Value} {o : Obj} (hb : Below B w wr) (hB : B ≤ w.heap.size)
    (hown : wr.ownsRow B 9 1 v n xs) (hg : (wr.alloc o).grownBy w1 v.ownBlock) : Below B w w1 :=
  (hb.alloc (by have := hb.size; omega) _).grown hg (by have := hb.size; simp; omega) (fun k hk => (hown.lt k hk).1)

/-- what is known of the loop at place k -/
def Lk (s : ByteArray) (k b : Nat) (o : List (List UInt8)) : Prop :=
  (Sp s.data.toList k b o ∧ plainB (s.data.toList.take k) = true) ∨ (s.size < k ∧ o = fields s.data.toList ∧ plainB s.data.toList = true)

theorem Lk.sp {s : ByteArray} {k b : Nat} {o : List (List UInt8)} (h : Lk s k b o) (hk : k ≤ s.size) : Sp s.data.toList k b o ∧ plainB (s.data.toList.take k) = true := by
  rcases h with h | h
  · exact h
  · omega

set_option maxRecDepth 100000 in
set_option maxHeartbeats 4000000 in
theorem sPartsOf_short (s : ByteArray) (hs : s.size ≤ 600) (w : World) : Calls Tryd.prog 7 #[.string s] w (PoOut s w) := by
  obtain ⟨i0, hi, hz0, hz1, hz2⟩ := info_parts info9
  have hlen : s.data.toList.length = s.size := by simp
  have HLen : Hid _ := hlen
  clear hlen
  have d0 : decide ((600 : Int) < (s.size : Int)) = false := by simp; omega
  go_enter Tryd.func7, Tryd.ntmps7
  go_wp2
  go_loopw [4, 5, 6] (fun out begin_ i wr => ∃ (k b n g cap : Nat) (o : List (List UInt8)), k ≤ s.size + 1 ∧ b ≤ k ∧ n ≤ k ∧ i = .int .i64 k ∧ begin_ = .int .i64 b ∧ out = .slice (some ⟨g, 0, none⟩) n cap ∧
      Hid (o.length = n) ∧ Hid (Lk s k b o) ∧ wr.ownsRow w.heap.size 9 1 (.slice (some ⟨g, 0, none⟩) n cap) n (wv o) ∧ Below w.heap.size w wr)
    (fun _ _ i _ => s.size + 1 - (intOf i).toNat)
  case atStart => exact ⟨0, 0, 0, w.heap.size, 0, [], by omega, by omega, by omega, rfl, rfl, rfl, rfl, .inl ⟨Sp.start _, rfl⟩, World.ownsRow_made _ _ _ (Nat.le_refl _) (by unfold maxLen; omega) rfl, (Below.refl _ _).alloc (Nat.le_refl _) _⟩
  case round =>
    obtain ⟨k, b, n, g, cap, o, hk, hbk, hnk, rfl, rfl, rfl, hon, hlk, hown, hb⟩ := hrel
    have hsz := hb.size
    by_cases hlt : k < s.size
    · have hsp := hlk.out.sp (by omega)
      have hc := UInt8.toNat_lt (s[k])
      have hkl : k < s.data.toList.length := by rw [HLen.out]; exact hlt
      have e0 : decide ((k : Int) < (s.size : Int)) = true := by simp; omega
      by_cases h1 : 32 ≤ (s[k]).toNat
      · have e1 : decide (((s[k]).toNat : Int) < 32) = false := by simp; omega
        by_cases h2 : (s[k]).toNat ≤ 126
        · have e2 : decide ((126 : Int) < ((s[k]).toNat : Int)) = false := by simp; omega
          have hpl : plainC (s.data.toList[k]'hkl) = true := by rw [pbyte s k hlt]; simp [plainC, h1, h2]
          have hp2 := plainB_take _ k hkl hsp.2 hpl
          by_cases h3 : 33 ≤ (s[k]).toNat
          · have e3 : (((s[k]).toNat : Int) != 32) = true := by simp; omega
            have HK : Hid (Lk s (k + 1) b o) := .inl ⟨hsp.1.char hkl (sp_plain _ hpl (by rw [pbyte s k hlt]; omega)), hp2⟩
            clear hsp hpl hp2 hlk
            go_wp2
            go_roundw
            case rel => exact ⟨k + 1, b, n, g, cap, o, by omega, by omega, by omega, by go_num, rfl, rfl, hon, HK, hown, hb⟩
            case measure => simp [intOf]; omega
          · have e3 : (((s[k]).toNat : Int) != 32) = false := by simp; omega
            have hbl := sp_blank (s.data.toList[k]'hkl) (by rw [pbyte s k hlt]; omega)
            by_cases h4 : b < k
            · have HK : Hid (Lk s (k + 1) (k + 1) (o ++ [(s.data.toList.drop b).take (k - b)])) := .inl ⟨hsp.1.blank_some hkl hbl h4, hp2⟩
              clear hsp hpl hp2 hlk hbl
              go_wp2_with (at_builtin; refine wpList_append_lies _ rfl _ _ 24 rfl w.heap.size 9 i0 (.string ⟨#[]⟩) 1 16 Tryd.underlying24 hi hz0 hz1 hz2 rfl (by decide) _ _ _ rfl (hown.alloc _) ⟨wr.heap.size, 0, none⟩ 1 1 [Value.string (s.extract b k)] rfl rfl (one_new _ _ _) (by intro u hu; simp at hu; subst hu; rfl) (by omega) (by unfold maxLen; omega) (by omega) (by simp; omega) (wr.heap.size + 1) (by simp) ?_)
              intro g1 cap1 w1 hown1 hg1 _ _
              have hb1 := below_app9 hb (Nat.le_refl _) hown hg1
              rw [wv_snoc o _ _ (cut_text s b k)] at hown1
              have HN : Hid ((o ++ [(s.data.toList.drop b).take (k - b)]).length = n + 1) := by show _ = _; rw [List.length_append, hon.out]; rfl
              clear hg1 hown hb
              go_wp2
              go_roundw
              case rel => exact ⟨k + 1, k + 1, n + 1, g1, cap1, _, by omega, by omega, by omega, by go_num, by go_num, rfl, HN, HK, hown1, hb1⟩
              case measure => simp [intOf]; omega
            · have HK : Hid (Lk s (k + 1) (k + 1) o) := .inl ⟨hsp.1.blank_none hkl hbl h4, hp2⟩
              clear hsp hpl hp2 hlk hbl
              go_wp2
              go_roundw
              case rel => exact ⟨k + 1, k + 1, n, g, cap, o, by omega, by omega, by omega, by go_num, by go_num, rfl, hon, HK, hown, hb⟩
              case measure => simp [intOf]; omega
        · have e2 : decide ((126 : Int) < ((s[k]).toNat : Int)) = true := by simp; omega
          have HO : Hid (poR s.data.toList = none) := poR_bad _ (plainB_bad _ k hkl (by rw [pbyte s k hlt]; simp [plainC]; omega))
          clear hsp hlk
          go_wp2
          go_ret2
          exact poOut_none HO.out (own_empty _ _ hsz) (hb.alloc hsz _)
      · have e1 : decide (((s[k]).toNat : Int) < 32) = true := by simp; omega
        have HO : Hid (poR s.data.toList = none) := poR_bad _ (plainB_bad _ k hkl (by rw [pbyte s k hlt]; simp [plainC]; omega))
        clear hsp hlk
        go_wp2
        go_ret2
        exact poOut_none HO.out (own_empty _ _ hsz) (hb.alloc hsz _)
    · have e0 : decide ((k : Int) < (s.size : Int)) = false := by simp; omega
      by_cases hle : k ≤ s.size
      · have hsp := hlk.out.sp hle
        have hkl : ¬ k < s.data.toList.length := by rw [HLen.out]; exact hlt
        have hpl : plainB s.data.toList = true := by have := hsp.2; rw [List.take_of_length_le (by omega)] at this; exact this
        by_cases h4 : b < k
        · have HK : Hid (Lk s (k + 1) (k + 1) (o ++ [(s.data.toList.drop b).take (k - b)])) := .inr ⟨by omega, hsp.1.end_some hkl h4, hpl⟩
          clear hsp hpl hlk
          go_wp2_with (at_builtin; refine wpList_append_lies _ rfl _ _ 24 rfl w.heap.size 9 i0 (.string ⟨#[]⟩) 1 16 Tryd.underlying24 hi hz0 hz1 hz2 rfl (by decide) _ _ _ rfl (hown.alloc _) ⟨wr.heap.size, 0, none⟩ 1 1 [Value.string (s.extract b k)] rfl rfl (one_new _ _ _) (by intro u hu; simp at hu; subst hu; rfl) (by omega) (by unfold maxLen; omega) (by omega) (by simp; omega) (wr.heap.size + 1) (by simp) ?_)
          intro g1 cap1 w1 hown1 hg1 _ _
          have hb1 := below_app9 hb (Nat.le_refl _) hown hg1
          rw [wv_snoc o _ _ (cut_text s b k)] at hown1
          have HN : Hid ((o ++ [(s.data.toList.drop b).take (k - b)]).length = n + 1) := by show _ = _; rw [List.length_append, hon.out]; rfl
          clear hg1 hown hb
          go_wp2
          go_roundw
          case rel => exact ⟨k + 1, k + 1, n + 1, g1, cap1, _, by omega, by omega, by omega, by go_num, by go_num, rfl, HN, HK, hown1, hb1⟩
          case measure => simp [intOf]; omega
        · have HK : Hid (Lk s (k + 1) (k + 1) o) := .inr ⟨by omega, hsp.1.end_none hkl h4, hpl⟩
          clear hsp hpl hlk
          go_wp2
          go_roundw
          case rel => exact ⟨k + 1, k + 1, n, g, cap, o, by omega, by omega, by omega, by go_num, by go_num, rfl, hon, HK, hown, hb⟩
          case measure => simp [intOf]; omega
      · have hend : o = fields s.data.toList ∧ plainB s.data.toList = true := by
          rcases hlk.out with h | h
          · have := h.1.le; rw [HLen.out] at this; omega
          · exact h.2
        have HE : Hid _ := hend
        clear hend hlk
        by_cases h10 : 10 < n
        · have HO : Hid (poR s.data.toList = none) := poR_many _ (by rw [← HE.out.1, hon.out]; exact h10)
          go_wp2
          go_ret2
          exact poOut_none HO.out (own_empty _ _ hsz) (hb.alloc hsz _)
        · go_wp2
          go_ret2
          refine poOut_some (poR_yes _ (by rw [HLen.out]; omega) HE.out.2 (by rw [← HE.out.1, hon.out]; omega)) ?_ hb
          have hown2 := hown
          rw [HE.out.1] at hown2
          have hln : ((fields s.data.toList).map mkB).length = n := by rw [List.length_map, ← HE.out.1]; exact hon.out
          show World.ownsRow _ _ _ _ _ _ _
          rw [hln]
          exact hown2

theorem pclone_any (s : ByteArray) (h : s.size ≤ 1048576) (w : World) :
    Calls Tryd.prog 16 #[.string s] w fun e w' => e = .returned (.string s) ∧ Below w.heap.size w w' := by
  go_enter Tryd.func16, Tryd.ntmps16
  go_wp2_with (go_at_call 21; refine (Tryd.stringslite_Clone s _ (by omega)).mono ?_; rintro e w1 ⟨rfl, hb1⟩)
  go_ret
  exact ⟨rfl, hb1⟩

theorem own_nil (w : World) (base : Nat) : Own w base (.slice none 0 0) [] := World.ownsRow_nil _ _ _ _

theorem iPartsOf_long (s : ByteArray) (hs : 600 < s.size) (w : World) : Calls Tryd.prog 8 #[.string s] w (PoOut s w) := by
  have HO : Hid (poR s.data.toList = none) := poR_long _ (by simpa using hs)
  have d0 : decide ((600 : Int) < (s.size : Int)) = true := by simp; omega
  go_enter Tryd.func8, Tryd.ntmps8
  go_wp2
  go_ret2
  exact poOut_none HO.out (own_nil _ _) (Below.refl _ _)

theorem iPartsOf_bad (s : ByteArray) (hs : s.size ≤ 600) (hp : plainB s.data.toList = false) (w : World) : Calls Tryd.prog 8 #[.string s] w (PoOut s w) := by
  have HO : Hid (poR s.data.toList = none) := poR_bad _ hp
  have d0 : decide ((600 : Int) < (s.size : Int)) = false := by simp; omega
  have HP : Hid (∀ w : World, Calls Tryd.prog 14 #[.string s] w fun e w' => e = .returned (.bool false) ∧ w = w') := fun w => by
    have := isPlain_any s (by omega) w
    rw [hp] at this
    exact this.mono fun _ _ h => ⟨h.1, h.2.symm⟩
  clear hp
  go_enter Tryd.func8, Tryd.ntmps8
  go_wp2_with (go_at_call 14; refine (HP.out _).mono ?_; rintro e w1 ⟨rfl, hw1⟩; subst hw1)
  go_ret2
  exact poOut_none HO.out (own_nil _ _) (Below.refl _ _)

theorem plain_ascii (l : List UInt8) (h : plainB l = true) : ∀ (j : Nat) b, l[j]? = some b → b.toNat < 128 := by
  intro j b hb
  have hm := List.mem_of_getElem? hb
  have := List.all_eq_true.1 h b hm
  unfold plainC at this
  have := of_decide_eq_true this
  omega

theorem field_small (l : List UInt8) : ∀ (r cur : List UInt8) (x : List UInt8), x ∈ Go.Lib.fieldsGo cur r → x.length ≤ cur.length + r.length
  | [], cur, x, hx => by
    unfold Go.Lib.fieldsGo at hx
    split at hx
    · cases hx
    · simp at hx; subst hx; simp
  | b :: r, cur, x, hx => by
    rw [Go.Lib.fieldsGo] at hx
    split at hx
    · split at hx
      · have := field_small l r [] x hx
        simp at this ⊢
        omega
      · rcases List.mem_cons.1 hx with h | h
        · subst h; simp
        · have := field_small l r [] x h
          simp at this ⊢
          omega
    · have := field_small l r (cur ++ [b]) x hx
      simp at this ⊢
      omega

theorem fields_few : ∀ (r cur : List UInt8), (Go.Lib.fieldsGo cur r).length ≤ r.length + 1
  | [], cur => by
    unfold Go.Lib.fieldsGo
    split <;> simp
  | b :: r, cur => by
    rw [Go.Lib.fieldsGo]
    split
    · split
      · have := fields_few r []
        simp
        omega
      · have := fields_few r []
        simp
        omega
    · have := fields_few r (cur ++ [b])
      simp
      omega

theorem set_self {xs : List Value} {j : Nat} {u : Value} (h : xs[j]? = some u) : xs.set j u = xs := by
  apply List.ext_getElem?
  intro t
  by_cases e : t = j
  · subst e
    rw [List.getElem?_set_self (by obtain ⟨hl, _⟩ := List.getElem?_eq_some_iff.1 h; exact hl), h]
  · rw [List.getElem?_set_ne (by omega)]

set_option maxRecDepth 100000 in
set_option maxHeartbeats 4000000 in
theorem iPartsOf_plain (s : ByteArray) (hs : s.size ≤ 600) (hp : plainB s.data.toList = true) (w : World) (htab : Lib.TabIs Tryd.prog w "strings.asciiSpace" .u8 Lib.asciiSpaceTab) :
    Calls Tryd.prog 8 #[.string s] w (PoOut s w) := by
  have hlen : s.data.toList.length = s.size := by simp
  have d0 : decide ((600 : Int) < (s.size : Int)) = false := by simp; omega
  have HP : Hid (∀ w : World, Calls Tryd.prog 14 #[.string s] w fun e w' => e = .returned (.bool true) ∧ w = w') := fun w => by
    have := isPlain_any s (by omega) w
    rw [hp] at this
    exact this.mono fun _ _ h => ⟨h.1, h.2.symm⟩
  obtain ⟨L, hL⟩ : ∃ L, L = fields s.data.toList := ⟨_, rfl⟩
  obtain ⟨n, hn⟩ : ∃ n, n = L.length := ⟨_, rfl⟩
  have hsmall : ∀ x ∈ L, x.length ≤ s.size := by
    rw [hL]
    intro x hx
    have := field_small [] _ _ x hx
    simp at this
    omega
  have HF : Hid (Calls Tryd.prog 15 #[.string s] w fun e w' => e = .returned (.slice (some ⟨w.heap.size, 0, none⟩) n n) ∧ w.alloc (.cells (wv L).toArray 9) = w') := by
    have := Tryd.strings_Fields s w (by omega) (plain_ascii _ hp) htab
    rw [← hL, ← hn] at this
    exact this.mono fun _ _ h => ⟨h.1, by rw [h.2]; simp [wv]; rfl⟩
  have hn600 : n ≤ 1000000 := by
    have := fields_few s.data.toList []
    rw [hn, hL]
    show (Go.Lib.fieldsGo [] s.data.toList).length ≤ _
    omega
  have HR : Hid (n ≤ 10 → poR s.data.toList = some (L.map mkB)) := fun h => by rw [hL] at hn ⊢; exact poR_yes _ (by omega) hp (by omega)
  have HN : Hid (10 < n → poR s.data.toList = none) := fun h => by rw [hL] at hn; exact poR_many _ (by omega)
  have Hn : Hid (n = L.length) := hn
  have HS : Hid _ := hsmall
  clear hp htab hL hn hsmall hlen
  go_enter Tryd.func8, Tryd.ntmps8
  go_wp2_with (go_at_call 14; refine (HP.out _).mono ?_; rintro e w1 ⟨rfl, hw1⟩; subst hw1; refine Hid.out ?_)
  refine (show ∀ {p : Prop}, p → Hid p from fun h => h) ?_
  go_wp2_with (go_at_call 15; refine HF.out.mono ?_; rintro e w1 ⟨rfl, hw1⟩; subst hw1; refine Hid.out ?_)
  refine (show ∀ {p : Prop}, p → Hid p from fun h => h) ?_
  have hown0 : (w.alloc (.cells (wv L).toArray 9)).ownsRow w.heap.size 9 1 (.slice (some ⟨w.heap.size, 0, none⟩) n n) n (wv L) :=
    World.ownsRow_lit w (wv L).toArray n (Nat.le_refl _) (by unfold maxLen; omega) (by simp [wv, Hn.out])
  by_cases h10 : 10 < n
  · have HO : Hid _ := HN.out h10
    clear hown0
    go_wp2
    go_ret2
    exact poOut_none HO.out (own_nil _ _) ((Below.refl _ _).alloc (Nat.le_refl _) _)
  · have d1 : decide ((10 : Int) < (n : Int)) = false := by simp; omega
    have HO : Hid _ := HR.out (by omega)
    go_wp2
    go_loopw [22] (fun i wr => ∃ j : Nat, j ≤ n ∧ i = .int .i64 j ∧ wr.ownsRow w.heap.size 9 1 (.slice (some ⟨w.heap.size, 0, none⟩) n n) n (wv L) ∧ Below w.heap.size w wr) (fun i _ => n - (intOf i).toNat)
    case atStart => exact ⟨0, by omega, rfl, hown0, (Below.refl _ _).alloc (Nat.le_refl _) _⟩
    case round =>
      obtain ⟨j, hj, rfl, hown, hb⟩ := hrel
      clear hown0
      by_cases hlt : j < n
      · have hjL : j < L.length := by rw [← Hn.out]; exact hlt
        obtain ⟨S, hS⟩ : ∃ S, S = mkB (L[j]'hjL) := ⟨_, rfl⟩
        have hSs : S.size ≤ 1048576 := by
          have := HS.out _ (List.getElem_mem hjL)
          have e : S.size = (L[j]'hjL).length := by rw [hS]; simp [mkB, ByteArray.size]
          omega
        have hwv : (wv L)[j]? = some (.string S) := by rw [hS]; simp [wv, hjL]
        have hc0 : wr.cell? ⟨w.heap.size, j, none⟩ = some (.string S) := by rw [hown.cellAt j (by omega)]; exact hwv
        have HC : Hid (∀ w : World, Calls Tryd.prog 16 #[.string S] w fun e w' => e = .returned (.string S) ∧ Below w.heap.size w w') := fun w => pclone_any S hSs w
        have b1 : (0 : Int) ≤ (j : Int) := by omega
        have b2 : (j : Int) < (n : Int) := by omega
        have HW : Hid _ := hwv
        clear hS hwv
        go_wp2_with (go_at_call 16; refine (HC.out _).mono ?_; rintro e w1 ⟨rfl, hb1⟩; refine Hid.out ?_)
        refine (show ∀ {p : Prop}, p → Hid p from fun h => h) ?_
        have hown1 := World.ownsRow.kept hown (grown_of_below hb1 none) (by simp [Value.ownBlock])
        have hc1 : w1.cell? ⟨w.heap.size, j, none⟩ = some (.string S) := by rw [hown1.cellAt j (by omega)]; exact HW.out
        have hf1 := hown1.frozenAt j
        have HO1 : Hid ((w1.setCell ⟨w.heap.size, j, none⟩ (.string S)).ownsRow w.heap.size 9 1 (.slice (some ⟨w.heap.size, 0, none⟩) n n) n (wv L)) := by
          have := (hown1.stored j (.string S)).1
          rw [set_self HW.out] at this
          exact this
        have HB1 : Hid (Below w.heap.size w (w1.setCell ⟨w.heap.size, j, none⟩ (.string S))) := (hb.trans (hb1.mono hb.size)).setCell (Nat.le_refl _) _
        clear hown hown1 hb hb1 hc0
        go_wp2
        go_roundw
        case rel => exact ⟨j + 1, by omega, by go_num, HO1, HB1⟩
        case measure => simp [intOf]; omega
      · go_wp2
        go_ret2
        refine poOut_some HO.out ?_ hb
        show World.ownsRow _ _ _ _ _ _ _
        rw [List.length_map, ← Hn.out]
        exact hown

end Go.Proofs.YtngbaefmejdecagDoor
