/- What the specification's ReadDecimal answers at every text. Texts as numbers, both sides. -/
import Derived.Test.YtgdlpmmbeacejaaDoorKDecimalD
import Derived.OpenShut
namespace Go.Proofs.YtgdlpmmbeacejaaDoor.C
open Go.RowKit Rd10 Dg
open Go.Lib (decDigits itoa)

theorem sReadDec_long (s : ByteArray) (h : 10 < s.size) (w : World) :
    Calls Tryd.prog 20 #[.string s] w fun e w' => e = .returned (rdV none) ∧ w' = w := by
  unfold rdV
  go_enter Tryd.func20, Tryd.ntmps20
  go_wp2
  go_ret2
  exact ⟨rfl, rfl⟩

theorem fig_step {s : ByteArray} {k : Nat} (hlt : k < s.size) (hf : figs (s.data.toList.take k)) (h1 : 48 ≤ (s[k]).toNat) (h2 : (s[k]).toNat ≤ 57) :
    figs (s.data.toList.take (k + 1)) ∧ ((val10 (s.data.toList.take (k + 1)) : Nat) : Int) = 10 * (val10 (s.data.toList.take k) : Int) + ((s[k]).toNat : Int) - 48 := by
  rw [rbytes_snoc s k hlt]
  refine ⟨?_, ?_⟩
  · intro c hc
    rcases List.mem_append.1 hc with hc | hc
    · exact hf c hc
    · simp only [List.mem_singleton] at hc
      subst hc
      exact ⟨h1, h2⟩
  · rw [val10_snoc]
    omega

theorem itoa_nat (m : Nat) : itoa (m : Int) = decDigits m := by unfold itoa; rw [if_neg (by omega)]; simp

theorem rd_neq {s : ByteArray} {m : Nat} (hv : m = val10 s.data.toList) (h : (!itoa (m : Int) == s.toList) = true) : rd s.data.toList = none := by
  rw [Lib.toList_data, itoa_nat] at h
  unfold rd
  rw [← hv, if_neg]
  intro hc
  rw [hc.2] at h
  simp at h

theorem rd_eq {s : ByteArray} {m : Nat} (_hv : m = val10 s.data.toList) (hm : m ≤ 1000000000) (h : (!itoa (m : Int) == s.toList) = false) : rd s.data.toList = some m := by
  rw [Lib.toList_data, itoa_nat] at h
  refine rd_yes m _ hm ?_
  simpa using h

set_option maxRecDepth 100000 in
set_option maxHeartbeats 2000000 in
theorem sReadDec_short (s : ByteArray) (h : s.size ≤ 10) (w : World) :
    Calls Tryd.prog 20 #[.string s] w fun e w' => e = .returned (rdV (rd s.data.toList)) ∧ Below w.heap.size w w' := by
  have d0 : decide ((10 : Int) < (s.size : Int)) = false := by simp; omega
  go_enter Tryd.func20, Tryd.ntmps20
  go_wp2
  go_loop [4, 5] (fun n i => ∃ k m : Nat, k ≤ s.size ∧ n = .int .i64 m ∧ i = .int .i64 k ∧ Hid (m = val10 (s.data.toList.take k)) ∧ Hid (figs (s.data.toList.take k)) ∧ m < 10000000000)
    (fun _ i => s.size - (intOf i).toNat)
  case atStart => exact ⟨0, 0, by omega, rfl, rfl, rfl, (fun c hc => by simp at hc), by omega⟩
  case round =>
    obtain ⟨k, m, hk, rfl, rfl, hm, hf, hmb⟩ := hrel
    by_cases hlt : k < s.size
    · have hc := UInt8.toNat_lt (s[k])
      by_cases hd : 48 ≤ (s[k]).toNat ∧ (s[k]).toNat ≤ 57
      · obtain ⟨h1, h2⟩ := hd
        have hst := fig_step hlt hf.out h1 h2
        have e1 : decide (((s[k]).toNat : Int) < 48) = false := by simp; omega
        have e2 : decide ((57 : Int) < ((s[k]).toNat : Int)) = false := by simp; omega
        have hvb : val10 (s.data.toList.take (k + 1)) < 10000000000 := val10_bound _ (by simp; omega) hst.1
        have HV : Hid (((val10 (s.data.toList.take (k + 1)) : Nat) : Int) = 10 * (m : Int) + ((s[k]).toNat : Int) - 48) := by rw [hm.out]; exact hst.2
        have HF : Hid (figs (s.data.toList.take (k + 1))) := hst.1
        have HB : Hid _ := hvb
        clear hst hf hm hvb
        go_wp2
        go_round
        case rel => exact ⟨k + 1, val10 (s.data.toList.take (k + 1)), by omega, by rw [HV.out], by go_num, rfl, HF, HB⟩
        case measure => simp [intOf]; omega
      · have HO : Hid (rd s.data.toList = none) := rd_bad _ _ (rbyte_mem s k hlt) (by omega)
        by_cases h1 : 48 ≤ (s[k]).toNat
        · have e1 : decide (((s[k]).toNat : Int) < 48) = false := by simp; omega
          have e2 : decide ((57 : Int) < ((s[k]).toNat : Int)) = true := by simp; omega
          go_wp2
          go_ret2
          exact ⟨by rw [HO.out]; rfl, Below.refl _ _⟩
        · have e1 : decide (((s[k]).toNat : Int) < 48) = true := by simp; omega
          go_wp2
          go_ret2
          exact ⟨by rw [HO.out]; rfl, Below.refl _ _⟩
    · have e : s.data.toList.take k = s.data.toList := List.take_of_length_le (by simp; omega)
      have hv : m = val10 s.data.toList := by rw [← e]; exact hm.out
      by_cases hmx : m ≤ 1000000000
      · have e3 : decide ((1000000000 : Int) < (m : Int)) = false := by simp; omega
        have HC : Hid (∀ w : World, Calls Tryd.prog 34 #[.int .i64 (m : Int)] w fun e w' => e = .returned (.string ⟨(itoa (m : Int)).toArray⟩) ∧ Below w.heap.size w w') := fun w => sDecimal_any (m : Int) (by omega) (by omega) w
        have HM : Hid _ := hv
        clear hm hf e hv
        go_wp2_with (go_at_call 34; refine (HC.out _).mono ?_; rintro e w1 ⟨rfl, hb1⟩)
        · have HO := rd_neq HM.out ‹_›
          go_ret2
          exact ⟨by rw [HO]; rfl, hb1⟩
        · have HO := rd_eq HM.out hmx ‹_›
          go_ret2
          exact ⟨by rw [HO]; rfl, hb1⟩
      · have e3 : decide ((1000000000 : Int) < (m : Int)) = true := by simp; omega
        have HO : Hid (rd s.data.toList = none) := by
          show _ = _
          unfold rd
          rw [if_neg (by omega)]
        clear hm hf e hv
        go_wp2
        go_ret2
        exact ⟨by rw [HO.out]; rfl, Below.refl _ _⟩

theorem sReadDec_any (s : ByteArray) (w : World) :
    Calls Tryd.prog 20 #[.string s] w fun e w' => e = .returned (rdV (rd s.data.toList)) ∧ Below w.heap.size w w' := by
  by_cases h : s.size ≤ 10
  · exact sReadDec_short s h w
  · rw [rd_long _ (by simp; omega)]
    exact (sReadDec_long s (by omega) w).mono fun e w' h => ⟨h.1, by rw [h.2]; exact Below.refl _ _⟩
end Go.Proofs.YtgdlpmmbeacejaaDoor.C
namespace Go.Proofs.YtgdlpmmbeacejaaDoor.C
open Go.RowKit Words Rd10

/-- texts as numbers -/
def nmO : List ByteArray → Option (List Nat)
  | [] => some []
  | x :: r => match rd x.data.toList with
    | none => none
    | some m => (nmO r).map (m :: ·)
/-- behind k texts -/
structure Nm (ss : List ByteArray) (k : Nat) (o : List Nat) : Prop where
  hk : k ≤ ss.length
  hl : o.length = k
  he : nmO ss = (nmO (ss.drop k)).map (o ++ ·)
theorem Nm.start (ss : List ByteArray) : Nm ss 0 [] := ⟨Nat.zero_le _, rfl, by simp⟩
theorem Nm.more {ss : List ByteArray} {k : Nat} {o : List Nat} (h : Nm ss k o) (hk : k < ss.length) {m : Nat} (hm : rd (ss[k]).data.toList = some m) : Nm ss (k + 1) (o ++ [m]) := by
  refine ⟨hk, by simp [h.hl], ?_⟩
  rw [h.he, List.drop_eq_getElem_cons hk, nmO, hm]
  dsimp only
  rw [Option.map_map]
  congr 1
  funext x
  simp
theorem Nm.no {ss : List ByteArray} {k : Nat} {o : List Nat} (h : Nm ss k o) (hk : k < ss.length) (hm : rd (ss[k]).data.toList = none) : nmO ss = none := by
  rw [h.he, List.drop_eq_getElem_cons hk, nmO, hm]
  rfl
theorem Nm.done {ss : List ByteArray} {o : List Nat} {k : Nat} (h : Nm ss k o) (hk : ¬ k < ss.length) : nmO ss = some o := by
  rw [h.he, List.drop_of_length_le (by omega), nmO]
  simp
theorem rd_le {l : List UInt8} {m : Nat} (h : rd l = some m) : m ≤ 1000000000 := by
  unfold rd at h
  split at h
  · rename_i hc
    have := Option.some.inj h
    omega
  · cases h
/-- a row of texts that is only read -/
def Sv (w : World) (a : Option Addr) (ss : List ByteArray) : Prop := ss = [] ∨ ∃ b off, a = some ⟨b, off, none⟩ ∧ b < w.heap.size ∧ ∀ (j : Nat) (x : ByteArray), ss[j]? = some x → w.cell? ⟨b, off + j, none⟩ = some (.string x)
theorem Sv.up {w u : World} {a : Option Addr} {ss : List ByteArray} (h : Sv w a ss) (hb : Below w.heap.size w u) : Sv u a ss := by
  refine h.imp id ?_
  rintro ⟨b, off, h1, h2, h3⟩
  exact ⟨b, off, h1, Nat.lt_of_lt_of_le h2 hb.size, fun j x hx => by rw [hb.cell h2]; exact h3 j x hx⟩
def nv (ns : List Nat) : List Value := ns.map fun (x : Nat) => Value.int .i64 (x : Int)
theorem nv_snoc (o : List Nat) (m : Nat) : nv o ++ [.int .i64 (m : Int)] = nv (o ++ [m]) := by simp [nv]
theorem infoI : (Tryd.prog.info? 3).map (fun i => (i.zero, i.size, i.bytes)) = some (some (.int .i64 0), 1, 8) := by kernel_rfl
/-- what is answered -/
def NmOut (ss : List ByteArray) (w : World) (e : Ending) (w' : World) : Prop :=
  (nmO ss = none ∧ ∃ a c, e = .returned (.tuple #[.slice a 0 c, .bool false]) ∧ Below w.heap.size w w') ∨
  ∃ ns, nmO ss = some ns ∧ ∃ a n c, e = .returned (.tuple #[.slice a n c, .bool true]) ∧ ns.length = n ∧ w'.ownsRow w.heap.size 3 1 (.slice a n c) n (nv ns) ∧ Below w.heap.size w w'
theorem rdV_some (x : ByteArray) {m : Nat} (h : rd x.data.toList = some m) : rdV (rd x.data.toList) = .tuple #[.int .i64 (m : Int), .bool true] := by rw [h]; rfl
theorem rdV_none (x : ByteArray) (h : rd x.data.toList = none) : rdV (rd x.data.toList) = .tuple #[.int .i64 0, .bool false] := by rw [h]; rfl

theorem one_newI (w : World) (x : Value) : ∀ j u, ([x] : List Value)[j]? = some u → (w.alloc (.cells #[x] 3)).cell? ((⟨w.heap.size, 0, none⟩ : Addr).add j) = some u := by
  intro j u hj
  rcases j with _ | j
  · simp at hj; subst hj; simp [Addr.add]
  · simp at hj
theorem below_appI {w wr w1 : World} {v : Value} {n : Nat} {xs : List Value} {o : Obj} (hb : Below w.heap.size w wr) (hown : wr.ownsRow w.heap.size 3 1 v n xs) (hg : (wr.alloc o).grownBy w1 v.ownBlock) : Below w.heap.size w w1 :=
  (hb.alloc hb.size o).grown hg (Nat.le_trans hb.size (by simp)) (fun j hj => (hown.lt j hj).1)
set_option maxRecDepth 100000 in
set_option maxHeartbeats 4000000 in
theorem sNums_any (ss : List ByteArray) (n : Nat) (hn : ss.length = n) (hs : n ≤ 1000) (hz : ∀ x ∈ ss, x.size ≤ 1000) (a : Option Addr) (c : Nat) (w : World) (h : Sv w a ss) : Calls Tryd.prog 11 #[.slice a n c] w (NmOut ss w) := by
  obtain ⟨i0, hi, hz0, hz1, hz2⟩ := info_parts infoI
  have HV := hidIt h
  have HZ := hidIt hz
  have HL := hidIt hn
  clear h hz hn
  go_enter Tryd.func11, Tryd.ntmps11
  go_wp2
  go_loopw [4, 5] (fun out i wr => ∃ (k g cap : Nat) (o : List Nat), k ≤ n ∧ i = .int .i64 (k : Int) ∧ out = .slice (some ⟨g, 0, none⟩) k cap ∧ Hid (Nm ss k o) ∧ wr.ownsRow w.heap.size 3 1 (.slice (some ⟨g, 0, none⟩) k cap) k (nv o) ∧ Below w.heap.size w wr)
    (fun _ i _ => n - (intOf i).toNat)
  case atStart => exact ⟨0, w.heap.size, 0, [], by omega, rfl, rfl, Nm.start _, World.ownsRow_made _ _ 0 (Nat.le_refl _) (by unfold maxLen; omega) rfl, (Below.refl _ _).alloc (Nat.le_refl _) _⟩
  case round =>
    obtain ⟨k, g, cap, o, hk, rfl, rfl, hnm, hown, hb⟩ := hrel
    have hsz := hb.size
    by_cases hlt : k < n
    · have hkl : k < ss.length := by rw [HL.out]; exact hlt
      have e0 : decide ((k : Int) < (n : Int)) = true := by simp; omega
      have e0' : (k : Int) < (n : Int) := by omega
      have e0'' : (0 : Int) ≤ (k : Int) := by omega
      rcases HV.out with hnil | ⟨b, off, rfl, hbl, hcell⟩
      · have := HL.out; rw [hnil] at this; simp at this; omega
      obtain ⟨x, hx⟩ : ∃ x, x = ss[k] := ⟨_, rfl⟩
      have hxs : x.size ≤ 1000 := by rw [hx]; exact HZ.out _ (List.getElem_mem _)
      have c0 : wr.cell? ⟨b, off + k, none⟩ = some (.string x) := by rw [hb.cell hbl]; exact hcell k x (by rw [hx]; exact List.getElem?_eq_getElem hkl)
      cases hrd : rd x.data.toList with
      | none =>
        have HO : Hid (nmO ss = none) := hnm.out.no hkl (by rw [← hx]; exact hrd)
        have HC : Hid (∀ u, Calls Tryd.prog 20 #[.string x] u fun e w' => e = .returned (.tuple #[.int .i64 0, .bool false]) ∧ Below u.heap.size u w') := fun u => by
          rw [← rdV_none x hrd]
          exact (sReadDec_any x u).mono fun e w' h => ⟨h.1, by first | exact h.2 | (rw [h.2]; exact Below.refl _ _)⟩
        clear hnm hx hrd hcell HV
        go_wp2_with (go_at_call 20; refine (HC.out _).mono ?_; rintro e w2 ⟨rfl, b2⟩; refine Hid.out ?_)
        refine hidIt ?_
        have hb2 : Below w.heap.size w w2 := hb.trans (b2.mono hsz)
        clear c0 hown HC
        go_wp2
        go_ret2
        exact .inl ⟨HO.out, _, _, rfl, (hb2.alloc hb2.size _)⟩
      | some m =>
        have HN : Hid (Nm ss (k + 1) (o ++ [m])) := hnm.out.more hkl (by rw [← hx]; exact hrd)
        have HC : Hid (∀ u, Calls Tryd.prog 20 #[.string x] u fun e w' => e = .returned (.tuple #[.int .i64 (m : Int), .bool true]) ∧ Below u.heap.size u w') := fun u => by
          rw [← rdV_some x hrd]
          exact (sReadDec_any x u).mono fun e w' h => ⟨h.1, by first | exact h.2 | (rw [h.2]; exact Below.refl _ _)⟩
        clear hnm hx hrd hcell
        go_wp2_with (go_at_call 20; refine (HC.out _).mono ?_; rintro e w2 ⟨rfl, b2⟩; refine Hid.out ?_)
        refine hidIt ?_
        have hb2 : Below w.heap.size w w2 := hb.trans (b2.mono hsz)
        have hown2 : w2.ownsRow w.heap.size 3 1 (.slice (some ⟨g, 0, none⟩) k cap) k (nv o) := World.ownsRow.kept hown (grown_of_below b2 none) (.inr (by simp [Value.ownBlock]))
        have hsz2 := hb2.size
        clear c0 hown hb hsz HC b2
        go_wp2_with (at_builtin; refine wpList_append_lies _ rfl _ _ 32 rfl w.heap.size 3 i0 (.int .i64 0) 1 8 Tryd.underlying32 hi hz0 hz1 hz2 rfl (by decide) _ _ _ rfl (hown2.alloc _) ⟨w2.heap.size, 0, none⟩ 1 1 [Value.int .i64 (m : Int)] rfl rfl (one_newI _ _) (by intro u hu; simp at hu; subst hu; rfl) (by omega) (by unfold maxLen; omega) (by omega) (by simp; omega) (w2.heap.size + 1) (by simp) ?_)
        intro g1 cap1 w3 hown3 hg3 _ _
        rw [nv_snoc] at hown3
        have hb3 := below_appI hb2 hown2 hg3
        clear hg3 hown2 hb2
        go_wp2
        exact ⟨⟨k + 1, g1, cap1, _, by omega, by go_num, rfl, HN, hown3, hb3⟩, by simp [intOf]; omega⟩
    · have e0 : decide ((k : Int) < (n : Int)) = false := by simp; omega
      obtain rfl : k = n := by omega
      have HO : Hid (nmO ss = some o) := hnm.out.done (by rw [HL.out]; omega)
      have HO2 : Hid (o.length = k) := hnm.out.hl
      clear hnm
      go_wp2
      go_ret2
      exact .inr ⟨o, HO.out, _, k, _, rfl, HO2.out, hown, hb⟩
set_option maxRecDepth 100000 in
set_option maxHeartbeats 4000000 in
theorem iNums_any (ss : List ByteArray) (n : Nat) (hn : ss.length = n) (hs : n ≤ 1000) (hz : ∀ x ∈ ss, x.size ≤ 1000) (a : Option Addr) (c : Nat) (w : World) (h : Sv w a ss) : Calls Tryd.prog 46 #[.slice a n c] w (NmOut ss w) := by
  obtain ⟨i0, hi, hz0, hz1, hz2⟩ := info_parts infoI
  have HV := hidIt h
  have HZ := hidIt hz
  have HL := hidIt hn
  clear h hz hn
  go_enter Tryd.func46, Tryd.ntmps46
  go_wp2
  go_loopw [4, 12] (fun out i wr => ∃ (k g cap : Nat) (o : List Nat), k ≤ n ∧ i = .int .i64 (k : Int) ∧ out = .slice (some ⟨g, 0, none⟩) k cap ∧ Hid (Nm ss k o) ∧ wr.ownsRow w.heap.size 3 1 (.slice (some ⟨g, 0, none⟩) k cap) k (nv o) ∧ Below w.heap.size w wr)
    (fun _ i _ => n - (intOf i).toNat)
  case atStart => exact ⟨0, w.heap.size, 0, [], by omega, rfl, rfl, Nm.start _, World.ownsRow_made _ _ 0 (Nat.le_refl _) (by unfold maxLen; omega) rfl, (Below.refl _ _).alloc (Nat.le_refl _) _⟩
  case round =>
    obtain ⟨k, g, cap, o, hk, rfl, rfl, hnm, hown, hb⟩ := hrel
    have hsz := hb.size
    by_cases hlt : k < n
    · have hkl : k < ss.length := by rw [HL.out]; exact hlt
      have e0 : decide ((k : Int) < (n : Int)) = true := by simp; omega
      have e0' : (k : Int) < (n : Int) := by omega
      have e0'' : (0 : Int) ≤ (k : Int) := by omega
      rcases HV.out with hnil | ⟨b, off, rfl, hbl, hcell⟩
      · have := HL.out; rw [hnil] at this; simp at this; omega
      obtain ⟨x, hx⟩ : ∃ x, x = ss[k] := ⟨_, rfl⟩
      have hxs : x.size ≤ 1000 := by rw [hx]; exact HZ.out _ (List.getElem_mem _)
      have c0 : wr.cell? ⟨b, off + k, none⟩ = some (.string x) := by rw [hb.cell hbl]; exact hcell k x (by rw [hx]; exact List.getElem?_eq_getElem hkl)
      cases hrd : rd x.data.toList with
      | none =>
        have HO : Hid (nmO ss = none) := hnm.out.no hkl (by rw [← hx]; exact hrd)
        have HC : Hid (∀ u, Calls Tryd.prog 55 #[.string x] u fun e w' => e = .returned (.tuple #[.int .i64 0, .bool false]) ∧ Below u.heap.size u w') := fun u => by
          rw [← rdV_none x hrd]
          exact (iReadDec_any x (by omega) u).mono fun e w' h => ⟨h.1, by first | exact h.2 | (rw [h.2]; exact Below.refl _ _)⟩
        clear hnm hx hrd hcell HV
        go_wp2_with (go_at_call 55; refine (HC.out _).mono ?_; rintro e w2 ⟨rfl, b2⟩; refine Hid.out ?_)
        refine hidIt ?_
        have hb2 : Below w.heap.size w w2 := hb.trans (b2.mono hsz)
        clear c0 hown HC
        go_wp2
        go_ret2
        exact .inl ⟨HO.out, _, _, rfl, hb2⟩
      | some m =>
        have HN : Hid (Nm ss (k + 1) (o ++ [m])) := hnm.out.more hkl (by rw [← hx]; exact hrd)
        have HC : Hid (∀ u, Calls Tryd.prog 55 #[.string x] u fun e w' => e = .returned (.tuple #[.int .i64 (m : Int), .bool true]) ∧ Below u.heap.size u w') := fun u => by
          rw [← rdV_some x hrd]
          exact (iReadDec_any x (by omega) u).mono fun e w' h => ⟨h.1, by first | exact h.2 | (rw [h.2]; exact Below.refl _ _)⟩
        clear hnm hx hrd hcell
        go_wp2_with (go_at_call 55; refine (HC.out _).mono ?_; rintro e w2 ⟨rfl, b2⟩; refine Hid.out ?_)
        refine hidIt ?_
        have hb2 : Below w.heap.size w w2 := hb.trans (b2.mono hsz)
        have hown2 : w2.ownsRow w.heap.size 3 1 (.slice (some ⟨g, 0, none⟩) k cap) k (nv o) := World.ownsRow.kept hown (grown_of_below b2 none) (.inr (by simp [Value.ownBlock]))
        have hsz2 := hb2.size
        clear c0 hown hb hsz HC b2
        go_wp2_with (at_builtin; refine wpList_append_lies _ rfl _ _ 32 rfl w.heap.size 3 i0 (.int .i64 0) 1 8 Tryd.underlying32 hi hz0 hz1 hz2 rfl (by decide) _ _ _ rfl (hown2.alloc _) ⟨w2.heap.size, 0, none⟩ 1 1 [Value.int .i64 (m : Int)] rfl rfl (one_newI _ _) (by intro u hu; simp at hu; subst hu; rfl) (by omega) (by unfold maxLen; omega) (by omega) (by simp; omega) (w2.heap.size + 1) (by simp) ?_)
        intro g1 cap1 w3 hown3 hg3 _ _
        rw [nv_snoc] at hown3
        have hb3 := below_appI hb2 hown2 hg3
        clear hg3 hown2 hb2
        go_wp2
        exact ⟨⟨k + 1, g1, cap1, _, by omega, by go_num, rfl, HN, hown3, hb3⟩, by simp [intOf]; omega⟩
    · have e0 : decide ((k : Int) < (n : Int)) = false := by simp; omega
      obtain rfl : k = n := by omega
      have HO : Hid (nmO ss = some o) := hnm.out.done (by rw [HL.out]; omega)
      have HO2 : Hid (o.length = k) := hnm.out.hl
      clear hnm
      go_wp2
      go_ret2
      exact .inr ⟨o, HO.out, _, k, _, rfl, HO2.out, hown, hb⟩

end Go.Proofs.YtgdlpmmbeacejaaDoor.C
