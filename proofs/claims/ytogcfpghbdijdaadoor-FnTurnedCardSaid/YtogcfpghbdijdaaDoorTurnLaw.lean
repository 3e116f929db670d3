/- The walk of FnTurned: for every bytes the law returns true and nothing that was there has turned, where the program's table stands. -/
import Derived.Test.YtogcfpghbdijdaaDoorTurn
import Derived.Laws.IdiomStrings
import Derived.Laws.Concat
namespace Go.Proofs.YtogcfpghbdijdaaDoor
open Go.RowKit Crc

theorem code_below {w w' : World} {a : Option Addr} {len : Nat} (h : Code w w.heap.size a len) (hb : Below w.heap.size w w') : Code w' w'.heap.size a len := by
  rcases h with h | ⟨b, off, ha, hbl, hn, hc⟩
  · exact .inl h
  · have := hb.size
    refine .inr ⟨b, off, ha, by omega, by omega, fun j hj => ?_⟩
    obtain ⟨z, hz, hcell⟩ := hc j hj
    exact ⟨z, hz, by rw [hb.cell hbl]; exact hcell⟩

theorem nvs_at (l : List Nat) (j : Nat) (h : j < l.length) : (nvs l)[j]? = some (.int .i64 ((l.getD j 0 : Nat) : Int)) := by
  unfold nvs
  rw [List.getElem?_map, List.getD_eq_getElem?_getD, List.getElem?_eq_getElem h]; rfl

theorem bt_at (t : ByteArray) (j : Nat) (hj : j < t.size) : t.data.toList[j]? = some (bt t j) := by
  have h : j < t.data.toList.length := by rw [sz]; exact hj
  unfold bt
  rw [List.getD_eq_getElem?_getD, List.getElem?_eq_getElem h]; rfl

/-- '[]byte(t)': a new row of its bytes -/
theorem conv_new (t : ByteArray) (u : World) :
    ∃ (cap : Nat) (cs : Array Value) (fr : Nat × Nat) (w' : World), (convert 9 22 (.string t)).run Tryd.prog u = .ok (.slice (some ⟨u.heap.size, 0, none⟩) t.size cap) w' ∧ Below u.heap.size u w' ∧ u.heap.size < w'.heap.size ∧
      w'.heap[u.heap.size]? = some (.cells cs 5 fr) ∧ t.size ≤ fr.1 ∧ ∀ j, j < t.size → cs[j]? = some (.int .u8 ((bt t j).toNat : Int)) := by
  refine ⟨grownCap u t.size 0 5, bytesRow t (grownCap u t.size 0 5), ((bytesRow t (grownCap u t.size 0 5)).size, (bytesRow t (grownCap u t.size 0 5)).size + 1), _, run_bytes_of_string u 9 22 5 t Tryd.underlying9 Tryd.underlying22 Tryd.underlying5, ?_, ?_, ?_, ?_, ?_⟩
  · exact (Below.refl _ _).drew.alloc (Nat.le_refl _) _
  · simp
  · exact heap_alloc_new u.drew _
  · simp [bytesRow]
  · intro j hj
    have h := bt_at t j hj
    rw [Array.getElem?_toList] at h
    have h2 : t.data[j] = bt t j := by
      rw [Array.getElem?_eq_getElem (by simpa using hj)] at h
      exact Option.some.inj h
    simp [bytesRow, Array.getElem?_append, hj, h2]

theorem row_frozen {u : World} {g : Nat} {cs : Array Value} {fr : Nat × Nat} (h : u.heap[g]? = some (.cells cs 5 fr)) (j : Nat) (hj : j < fr.1) : u.frozen? ⟨g, j, none⟩ = false := by
  simp only [World.frozen?, h]
  obtain ⟨lo, hi⟩ := fr
  simp at hj ⊢
  omega

/-- 'string(b)' behind a store into the row -/
theorem conv_turned (t : ByteArray) (u : World) (g : Nat) (cs : Array Value) (fr : Nat × Nat) (h : u.heap[g]? = some (.cells cs 5 fr)) (hc : ∀ j, j < t.size → cs[j]? = some (.int .u8 ((bt t j).toNat : Int)))
    (j : Nat) (c : UInt8) (x : Int) (hx : (c.toNat : Int) = x) (cap n : Nat) (hn : t.size = n) :
    (convert 22 9 (.slice (some ⟨g, 0, none⟩) n cap)).run Tryd.prog (u.setCell ⟨g, j, none⟩ (.int .u8 x)).drew = .ok (.string (tn t j c)) (u.setCell ⟨g, j, none⟩ (.int .u8 x)).drew := by
  subst hx
  have hl : (t.data.toList.set j c).length = n := by rw [List.length_set, sz]; exact hn
  have key := run_convert_bytes_back (P := Tryd.prog) (u.setCell ⟨g, j, none⟩ (.int .u8 (c.toNat : Int))).drew 22 9 5 ⟨g, 0, none⟩ cap (t.data.toList.set j c) Tryd.underlying22 Tryd.underlying5 Tryd.underlying9 (fun i hi => by
    have hi2 : i < t.size := by rw [hl] at hi; omega
    have hcs := hc i hi2
    have hrow : (u.setCell ⟨g, j, none⟩ (.int .u8 (c.toNat : Int))).drew.heap[g]? = some (.cells (cs.setIfInBounds j (.int .u8 (c.toNat : Int))) 5 fr) := by
      show (u.setCell ⟨g, j, none⟩ (.int .u8 (c.toNat : Int))).heap[g]? = _
      simp [World.setCell, Array.getElem?_modify, h]
    have hadd : (⟨g, 0, none⟩ : Addr).add i = ⟨g, i, none⟩ := by simp [Addr.add]; omega
    rw [hadd, cell_of_row _ g i _ 5 fr hrow]
    by_cases e : j = i
    · subst e
      have hs : j < cs.size := (Array.getElem?_eq_some_iff.1 hcs).1
      simp [hs]
    · rw [Array.getElem?_setIfInBounds_ne e, hcs]
      have e2 : (t.data.toList.set j c)[i] = bt t i := by
        have h1 := bt_at t i hi2
        have h2 : (t.data.toList.set j c)[i]? = some (bt t i) := by rw [List.getElem?_set_ne e]; exact h1
        rw [List.getElem?_eq_getElem hi] at h2
        exact Option.some.inj h2
      rw [e2])
  rw [hl] at key
  exact key

set_option maxHeartbeats 1000000 in
theorem fnTurned.walk (a : Option Addr) (len cap : Nat) (w : World) (hcode : Code w w.heap.size a len) (ht : Tab w) :
    Calls Tryd.prog 4 #[.slice a len cap] w fun e w' => e = .returned (.bool true) ∧ Below w.heap.size w w' := by
  by_cases hl : len ≤ 1048576
  · have HBig : Hid (∀ W : World, Calls Tryd.prog 5 #[.slice a len cap] W fun e w' => e = .returned (.bool false) ∧ W = w') := fun W => by
      have := big_any W a len cap
      rw [show decide ((1048576 : Int) < (len : Int)) = false by simp; omega] at this
      exact this.mono fun _ _ h => ⟨h.1, h.2.symm⟩
    have HCode := hideIt hcode
    have HT : Hid (Tab w) := hideIt ht
    have HX := hideIt (drawSumOf_any w a len cap hl hcode)
    clear hcode ht
    go_enter Tryd.func4, Tryd.ntmps4
    go_wp2_with (go_at_call 5; refine (HBig.out _).mono ?_; rintro e w1 ⟨rfl, hw1⟩; subst hw1; refine Hid.out ?_)
    refine (show ∀ {p : Prop}, p → Hid p from fun h => h) ?_
    clear HBig
    go_wp2_with (go_at_call 16; refine HX.out.mono ?_; rintro e w1 ⟨S, hS, rfl, k1⟩; refine Hid.out ?_)
    refine (show ∀ {p : Prop}, p → Hid p from fun h => h) ?_
    have HP := hideIt (drawPlaces_any w1 a len cap hl (code_below HCode.out k1))
    clear HX HCode
    go_wp2_with (go_at_call 17; refine HP.out.mono ?_; rintro e w2 ⟨gp, cp, l, hl12, hlz, rfl, hown, hb2⟩; refine Hid.out ?_)
    refine (show ∀ {p : Prop}, p → Hid p from fun h => h) ?_
    have k2 := k1.trans (hb2.mono k1.size)
    have hgp := (hown.lt gp rfl)
    have hc0 : w2.cell? ⟨gp, 0, none⟩ = some (.int .i64 ((l.getD 0 0 : Nat) : Int)) := by
      rw [hown.cellAt 0 (by omega)]; exact nvs_at l 0 (by omega)
    have hc1 : w2.cell? ⟨gp, 1, none⟩ = some (.int .i64 ((l.getD 1 0 : Nat) : Int)) := by
      rw [hown.cellAt 1 (by omega)]; exact nvs_at l 1 (by omega)
    obtain ⟨z0, hz0⟩ : ∃ z, l.getD 0 0 = z := ⟨_, rfl⟩
    obtain ⟨z1, hz1⟩ : ∃ z, l.getD 1 0 = z := ⟨_, rfl⟩
    rw [hz0] at hc0
    rw [hz1] at hc1
    have HS := hideIt (tSeal S hS w2 (HT.out.below k2 (Nat.le_refl _)))
    clear HP hb2 hown hl12 hlz k1 hz0 hz1
    go_wp2_with (go_at_call 18; refine HS.out.mono ?_; rintro e w3 ⟨rfl, hb3⟩; refine Hid.out ?_)
    refine (show ∀ {p : Prop}, p → Hid p from fun h => h) ?_
    have k3 := k2.trans (hb3.mono k2.size)
    have HU := hideIt (tUnseal S hS w3 (HT.out.below k3 (Nat.le_refl _)))
    clear HS
    go_wp2_with (go_at_call 19; refine HU.out.mono ?_; rintro e w4 ⟨rfl, hb4⟩; refine Hid.out ?_)
    refine (show ∀ {p : Prop}, p → Hid p from fun h => h) ?_
    have k4 := k3.trans (hb4.mono k3.size)
    have g4 := hb3.trans (hb4.mono hb3.size)
    clear HU k2 k3 hb3 hb4
    obtain ⟨cb, cs, fr, w5, hrun, hb5, hs5, hrow, hfr, hcs⟩ := conv_new (sl S) w4
    have k5 := k4.trans (hb5.mono k4.size)
    have g5 := g4.trans (hb5.mono g4.size)
    have hsz := sl_size S
    have c0 : w5.cell? ⟨gp, 0, none⟩ = some (.int .i64 (z0 : Int)) := by rw [g5.cell (show gp < _ from hgp.2)]; exact hc0
    have c1 : w5.cell? ⟨gp, 1, none⟩ = some (.int .i64 (z1 : Int)) := by rw [g5.cell (show gp < _ from hgp.2)]; exact hc1
    have hT : ((sl S).size : Int) = (S.size : Int) + 4 := by omega
    obtain ⟨j, hj⟩ : ∃ j : Nat, z0 % (S.size + 4) = j := ⟨_, rfl⟩
    have hjlt : j < (sl S).size := by rw [hsz, ← hj]; exact Nat.mod_lt _ (by omega)
    have hjI : (z0 : Int) % ((S.size : Int) + 4) = (j : Int) := by rw [← hj]; simp
    obtain ⟨v, hv⟩ : ∃ v : Nat, 1 + z1 % 255 = v := ⟨_, rfl⟩
    have hv0 : 1 ≤ v ∧ v ≤ 255 := by omega
    have hvI : (1 : Int) + (z1 : Int) % 255 = (v : Int) := by omega
    obtain ⟨ab, hab⟩ : ∃ ab : Nat, (bt (sl S) j).toNat = ab := ⟨_, rfl⟩
    have hab2 : ab < 256 := by rw [← hab]; exact UInt8.toNat_lt _
    have hcj : w5.cell? ⟨w4.heap.size, j, none⟩ = some (.int .u8 (ab : Int)) := by rw [cell_of_row _ _ _ _ _ _ hrow, hcs j hjlt, hab]
    have hfj := row_frozen hrow j (by omega)
    have hX := u8_xor_nat ab v hab2 (by omega)
    have b1 : (0 : Int) ≤ (j : Int) := by omega
    have b2 : (j : Int) < (S.size : Int) + 4 := by omega
    have hcx : ((UInt8.ofNat (ab ^^^ v)).toNat : Int) = ((ab ^^^ v : Nat) : Int) := by
      have : ab ^^^ v < 256 := Nat.xor_lt_two_pow (n := 8) (by omega) (by omega)
      simp only [UInt8.toNat_ofNat']
      rw [Nat.mod_eq_of_lt (by omega)]
    have hne := turned_ne ab v hab2 hv0.1 hv0.2 (bt (sl S) j) hab
    obtain ⟨cc, hcc⟩ : ∃ cc, UInt8.ofNat (ab ^^^ v) = cc := ⟨_, rfl⟩
    rw [hcc] at hcx hne
    have HCV := hideIt (conv_turned (sl S) w5 w4.heap.size cs fr hrow hcs j cc _ hcx cb (S.size + 4) hsz)
    have HNE := hideIt hne
    have K6 := hideIt ((k5.setCell (p := ⟨w4.heap.size, j, none⟩) k4.size (.int .u8 ((ab ^^^ v : Nat) : Int))).drew)
    have HJ := hideIt hjlt
    clear hcs hj hv hab hc0 hc1 hrow hcx hfr hne hcc
    go_wp2
    go_region
    obtain ⟨w6, hw6⟩ : ∃ u, u = (w5.setCell ⟨w4.heap.size, j, none⟩ (.int .u8 ((ab ^^^ v : Nat) : Int))).drew := ⟨_, rfl⟩
    rw [← hw6] at HCV K6 ⊢
    have hcv := HCV.out
    have k6 := K6.out
    have HTN := hideIt (tTurned S hS j HJ.out cc HNE.out w6 (HT.out.below k6 (Nat.le_refl _)))
    clear hw6 HCV K6 hrun hcj hfj c0 c1 k5 g5 hb5 k4 g4 hX
    go_wp2_with (go_at_call 19; refine HTN.out.mono ?_; rintro e w7 ⟨rfl, hb7⟩; refine Hid.out ?_)
    refine (show ∀ {p : Prop}, p → Hid p from fun h => h) ?_
    have k7 := k6.trans (hb7.mono k6.size)
    have T7 : Tab w7 := HT.out.below k7 (Nat.le_refl _)
    have H1 := hideIt (iSumOf_S S (by unfold maxLen; omega) w7 T7)
    have H2 := hideIt (tMore S w7 T7)
    have hxs : (S ++ (⟨#[120]⟩ : ByteArray)).size = S.size + 1 := by rw [ByteArray.size_append]; rfl
    have H3 := hideIt (iSumOf_S (S ++ (⟨#[120]⟩ : ByteArray)) (by rw [hxs]; unfold maxLen; omega) w7 T7)
    have ha := fun wx => run_string_add_sum (P := Tryd.prog) wx S ⟨#[120]⟩ (by show S.size + 1 ≤ _; omega)
    clear HTN hcv T7 hb7 k6 hxs
    go_wp2_with (go_at_call 21; refine H1.out.mono ?_; rintro e w8 ⟨rfl, hw8⟩; subst hw8; refine Hid.out ?_)
    refine (show ∀ {p : Prop}, p → Hid p from fun h => h) ?_
    clear H1
    go_wp2_with (go_at_call 20; refine H2.out.mono ?_; rintro e w8 ⟨rfl, hw8⟩; subst hw8; refine Hid.out ?_)
    refine (show ∀ {p : Prop}, p → Hid p from fun h => h) ?_
    clear H2
    go_wp2_with (go_at_call 21; refine H3.out.mono ?_; rintro e w8 ⟨rfl, hw8⟩; subst hw8)
    go_ret
    exact ⟨by simp, k7⟩
  · have HBig : Hid (∀ W : World, Calls Tryd.prog 5 #[.slice a len cap] W fun e w' => e = .returned (.bool true) ∧ W = w') := fun W => by
      have := big_any W a len cap
      rw [show decide ((1048576 : Int) < (len : Int)) = true by simp; omega] at this
      exact this.mono fun _ _ h => ⟨h.1, h.2.symm⟩
    go_enter Tryd.func4, Tryd.ntmps4
    go_wp2_with (go_at_call 5; refine (HBig.out _).mono ?_; rintro e w1 ⟨rfl, hw1⟩; subst hw1)
    go_ret
    exact ⟨rfl, Below.refl _ _⟩
end Go.Proofs.YtogcfpghbdijdaaDoor
