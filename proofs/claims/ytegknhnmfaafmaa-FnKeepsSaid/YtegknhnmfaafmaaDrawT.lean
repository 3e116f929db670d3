/- Draws of texts, names and right disks. -/
import Derived.Test.YtegknhnmfaafmaaDrawSum
import Derived.Test.YtegknhnmfaafmaaOrder
import Derived.Deep.DeepCutAuto
namespace Go.Proofs.Ytegknhnmfaafmaa
open Go.RowKit

set_option maxRecDepth 100000 in
set_option maxHeartbeats 2000000 in
theorem l01Text_drawn (n : Nat) (hn : n ≤ 5000) (w : World) (G : Nat) (a : Option Addr) (len cap : Nat) (hl : len ≤ 1048576) (hcur : Cur w G a len cap) (hcode : Code w G a len) :
    Calls Try.prog 23 #[.pointer (some ⟨G, 0, none⟩), .int .i64 (n : Int)] w fun e w' => ∃ S : ByteArray, S.size = n ∧ e = .returned (.string S) ∧ Drawn w w' G a len cap := by
  obtain ⟨i0, hi, hz0, hz1, hz2⟩ := info_parts info5
  have hG := hcur.lt
  have hlow := code_low (B := w.heap.size) hcode (Nat.le_refl _)
  have HLow := hideIt hlow
  have HC := hideIt (hcur.alloc (.cells #[] 5))
  have HD := hideIt (hcode.alloc (.cells #[] 5))
  have HB := hideIt (fun (W : World) (hc : Cur W G a len cap) (hd : Code W G a len) => l01Byte_drawn W G a len cap hl hc hd)
  have d0 : decide ((5000 : Int) < (n : Int)) = false := by simp; omega
  clear hcur hcode hlow
  go_enter Try.func23, Try.ntmps23
  go_wp2
  go_loopw [5, 6] (fun out i wr => ∃ (k g c : Nat) (l : List UInt8), k ≤ n ∧ i = .int .i64 k ∧ out = .slice (some ⟨g, 0, none⟩) k c ∧ Hid (l.length = k) ∧ wr.ownsRow w.heap.size 5 1 (.slice (some ⟨g, 0, none⟩) k c) k (bv l) ∧ Hid (Cur wr G a len cap) ∧ Hid (Code wr G a len) ∧ w.grownBy wr (some G))
    (fun _ i _ => n - (intOf i).toNat)
  case atStart => exact ⟨0, w.heap.size, 0, [], by omega, rfl, rfl, rfl, World.ownsRow_made _ _ _ (Nat.le_refl _) (by unfold maxLen; omega) rfl, HC, HD, World.grownBy_alloc w _ (some G)⟩
  case round =>
    obtain ⟨k, g, c, l, hk, rfl, rfl, hll, hown, hc, hd, hb⟩ := hrel
    have hsz := hb.size
    clear HC HD
    by_cases hlt : k < n
    · go_wp2_with (go_at_call 26; refine (HB.out _ hc.out hd.out).mono ?_; rintro e w1 ⟨x, hx, rfl, dr⟩; refine Hid.out ?_)
      refine (show ∀ {p : Prop}, p → Hid p from fun h => h) ?_
      have lg := hown.lt g rfl
      have hown1 := World.ownsRow.kept hown dr.grown (.inr (by simp [Value.ownBlock]; omega))
      have s1 := dr.grown.size
      have hb1 := grownT hb dr.grown
      have HC1 := hideIt dr.cur
      have HD1 := hideIt dr.code
      clear dr hown hb hc hd
      go_wp2_with (at_builtin; refine wpList_append_lies _ rfl _ _ 22 rfl w.heap.size 5 i0 (.int .u8 0) 1 1 Try.underlying22 hi hz0 hz1 hz2 rfl (by decide) _ _ _ rfl (hown1.alloc _) ⟨w1.heap.size, 0, none⟩ 1 1 [Value.int .u8 (x : Int)] rfl rfl (one_new _ _ _) (by intro u hu; simp at hu; subst hu; rfl) (by omega) (by unfold maxLen; omega) (by omega) (by simp; omega) (w1.heap.size + 1) (by simp) ?_)
      intro g2 c2 w2 hown2 hg2 _ _
      have hrow : ∀ j, (Value.slice (some ⟨g, 0, none⟩) k c).ownBlock = some j → w.heap.size ≤ j := fun j hj => by simp [Value.ownBlock] at hj; omega
      have HB2 : Hid (w.grownBy w2 (some G)) := ⟨hg2.os.trans hb1.os, hg2.tape.trans hb1.tape, hg2.output.trans hb1.output, by have := hg2.size; simp at this; omega, fun j hj hne => by
        rw [hg2.block j (by simp; omega) (fun e => by have := hrow j e.symm; omega), Below.heap_alloc _ _ j (by omega)]
        exact hb1.block j hj hne⟩
      have HC2 : Hid (Cur w2 G a len cap) := (HC1.out.alloc _).kept hg2 (by simp [Value.ownBlock]; omega)
      have HD2 : Hid (Code w2 G a len) := code_row (HD1.out.alloc _) HLow.out hg2 hrow
      rw [bv_snoc l (UInt8.ofNat x) x (by simp; omega)] at hown2
      have HL2 : Hid ((l ++ [UInt8.ofNat x]).length = k + 1) := by show _ = _; rw [List.length_append, hll.out]; rfl
      clear hg2 hown1 hb1 HC1 HD1
      go_wp2
      go_roundw
      case rel => exact ⟨k + 1, g2, c2, _, by omega, by go_num, rfl, HL2, hown2, HC2, HD2, HB2⟩
      case measure => simp [intOf]; omega
    · have hcv := conv_at hown
      have HLn : Hid (l.length = n) := by show _ = _; have := hll.out; omega
      clear hown
      go_wp2
      go_ret
      exact ⟨_, by simp [ByteArray.size]; exact HLn.out, rfl, hc.out, hd.out, hb⟩

/-- a name as it must be -/
def NmOk (s : ByteArray) : Prop := 1 ≤ s.size ∧ s.size ≤ 8

theorem l01Pick_any (L n : Nat) (c : Nat) (hn : 0 < n) (hn2 : n ≤ 1000) (w : World) (G : Nat) (a : Option Addr) (len cap : Nat) (hl : len ≤ 1048576) (hcur : Cur w G a len cap) (hcode : Code w G a len) (hL : L < w.heap.size) (hLG : L ≠ G)
    (hcells : ∀ j, j < n → ∃ s : ByteArray, NmOk s ∧ w.cell? ⟨L, j, none⟩ = some (.string s)) :
    Calls Try.prog 41 #[.pointer (some ⟨G, 0, none⟩), .slice (some ⟨L, 0, none⟩) n c] w fun e w' => ∃ s : ByteArray, NmOk s ∧ e = .returned (.string s) ∧ Drawn w w' G a len cap := by
  have HB := hideIt (l01Below_any (n : Int) (by omega) (by omega) w G a len cap hl hcur hcode)
  have HL := hideIt hcells
  clear hcur hcode hcells
  go_enter Try.func41, Try.ntmps41
  go_wp2_with (go_at_call 22; refine HB.out.mono ?_; rintro e w1 ⟨x, hx, rfl, hd⟩; refine Hid.out ?_)
  refine (show ∀ {p : Prop}, p → Hid p from fun h => h) ?_
  have hxn : x < n := by omega
  obtain ⟨z, hzo, hz⟩ := HL.out x hxn
  have hz1 : w1.cell? ⟨L, x, none⟩ = some (.string z) := by rw [World.cell?_of_block (w := w) (hd.grown.block L hL (by simp; exact hLG))]; exact hz
  have b1 : (0 : Int) ≤ (x : Int) := by omega
  clear HB HL hz
  go_wp2
  go_ret
  exact ⟨_, hzo, rfl, hd⟩

theorem eight_cells (w : World) (s : List ByteArray) (hs : s.length = 8) (hok : ∀ x ∈ s, NmOk x) (t : TypeId) : ∀ j, j < 8 → ∃ x : ByteArray, NmOk x ∧ (w.alloc (.cells (s.map fun x => Value.string x).toArray t)).cell? ⟨w.heap.size, j, none⟩ = some (.string x) := by
  intro j hj
  refine ⟨s[j]'(by omega), hok _ (List.getElem_mem _), ?_⟩
  rw [cell_of_row _ _ j _ _ _ (heap_alloc_new w _)]
  simp [show j < s.length by omega]

theorem Drawn.from {w w' : World} {o : Obj} {G : Nat} {a : Option Addr} {len cap : Nat} (h : Drawn (w.alloc o) w' G a len cap) : Drawn w w' G a len cap := ⟨h.cur, h.code, grownT (World.grownBy_alloc w o (some G)) h.grown⟩

theorem names8 : ∀ x ∈ ([⟨#[97]⟩, ⟨#[98]⟩, ⟨#[99]⟩, ⟨#[108, 111, 103]⟩, ⟨#[108, 111, 103, 43]⟩, ⟨#[120]⟩, ⟨#[121]⟩, ⟨#[122]⟩] : List ByteArray), NmOk x := by
  intro x hx
  simp only [List.mem_cons, List.not_mem_nil, or_false] at hx
  rcases hx with rfl | rfl | rfl | rfl | rfl | rfl | rfl | rfl <;> exact ⟨by decide, by decide⟩

theorem l03Named_any (w : World) (G : Nat) (a : Option Addr) (len cap : Nat) (hl : len ≤ 1048576) (hcur : Cur w G a len cap) (hcode : Code w G a len) :
    Calls Try.prog 25 #[.pointer (some ⟨G, 0, none⟩)] w fun e w' => ∃ s : ByteArray, NmOk s ∧ e = .returned (.string s) ∧ Drawn w w' G a len cap := by
  have hG := hcur.lt
  have HP := hideIt (fun (o : Obj) hcells => l01Pick_any w.heap.size 8 8 (by omega) (by omega) (w.alloc o) G a len cap hl (hcur.alloc o) (hcode.alloc o) (by simp) (by omega) hcells)
  clear hcur hcode
  go_enter Try.func25, Try.ntmps25
  go_wp2_with (go_at_call 41; refine (HP.out _ (eight_cells w [⟨#[97]⟩, ⟨#[98]⟩, ⟨#[99]⟩, ⟨#[108, 111, 103]⟩, ⟨#[108, 111, 103, 43]⟩, ⟨#[120]⟩, ⟨#[121]⟩, ⟨#[122]⟩] rfl names8 _)).mono ?_; rintro e w1 ⟨s, hs, rfl, hd⟩)
  go_ret
  exact ⟨_, hs, rfl, hd.from⟩

/-- files in order, each as it must be -/
def Right (gs : List FileV) : Prop := Sorted gs ∧ ∀ f ∈ gs, FileOk f
theorem Right.put {gs : List FileV} (h : Right gs) {f : FileV} (hf : FileOk f) : Right (put gs f) :=
  ⟨sorted_put h.1 f, fun g hg => by
    rcases mem_put.1 hg with rfl | hg
    · exact hf
    · exact h.2 g hg.1⟩
theorem put_short (gs : List FileV) (f : FileV) : (put gs f).length ≤ gs.length + 1 := by
  have h1 := len_parts gs f
  have h2 := without_le gs f.name
  unfold put
  simp only [List.length_append, List.length_cons, List.length_nil]
  omega

theorem Drawn.box {w w' : World} {G : Nat} {a : Option Addr} {len cap : Nat} (h : Drawn w w' G a len cap) {b : Nat} {t : TypeId} {v : Value} (hb : Box w b t v) (hn : b ≠ G) : Box w' b t v := hb.grown h.grown (by simpa using hn)
theorem Drawn.row {w w' : World} {G : Nat} {a : Option Addr} {len cap : Nat} (h : Drawn w w' G a len cap) {B e s n : Nat} {v : Value} {xs : List Value} (ho : w.ownsRow B e s v n xs) (hB : G < B) : w'.ownsRow B e s v n xs :=
  World.ownsRow.kept ho h.grown (.inr fun e => by have := (ho.lt G e).1; omega)
theorem Cur.up {w w' : World} {G : Nat} {a : Option Addr} {len cap : Nat} (h : Cur w G a len cap) (hb : Below w.heap.size w w') : Cur w' G a len cap :=
  h.kept (row := none) ⟨hb.os, hb.tape, hb.output, hb.size, fun k hk _ => hb.block k hk⟩ (by simp)
theorem Code.up {w w' : World} {G : Nat} {a : Option Addr} {len : Nat} (h : Code w G a len) (hb : Below w.heap.size w w') : Code w' G a len :=
  h.keptRow (row := none) ⟨hb.os, hb.tape, hb.output, hb.size, fun k hk _ => hb.block k hk⟩ (fun _ _ _ => by simp)
theorem Code.set {w : World} {G : Nat} {a : Option Addr} {len : Nat} (h : Code w G a len) (b j : Nat) (v : Value) (hlow : Low a len b) : Code (w.setCell ⟨b, j, none⟩ v) G a len :=
  code_row h hlow (grown_set w b j v) (fun k hk => by cases hk; exact Nat.le_refl _)
theorem Cur.set {w : World} {G : Nat} {a : Option Addr} {len cap : Nat} (h : Cur w G a len cap) (b j : Nat) (v : Value) (hb : b ≠ G) : Cur (w.setCell ⟨b, j, none⟩ v) G a len cap :=
  h.kept (grown_set w b j v) (by simpa using Ne.symm hb)

/-- where the drawing of a disk stands -/
structure DrawAt (w : World) (G bD : Nat) (a : Option Addr) (len cap : Nat) (gs : List FileV) (a' : Option Addr) (m c' : Nat) (u : World) : Prop where
  cur : Cur u G a len cap
  code : Code u G a len
  x1 : Box u w.heap.size 26 (.slice none 0 0)
  x2 : Box u bD 26 (.slice a' m c')
  own : u.ownsRow (bD + 1) 36 3 (.slice a' m c') m (fcells gs)
  below : Below w.heap.size w u
  g0 : w.heap.size < G
  g1 : G < bD
theorem DrawAt.drawn {w : World} {G bD : Nat} {a : Option Addr} {len cap : Nat} {gs : List FileV} {a' : Option Addr} {m c' : Nat} {u v : World} (h : DrawAt w G bD a len cap gs a' m c' u) (hd : Drawn u v G a len cap) : DrawAt w G bD a len cap gs a' m c' v :=
  ⟨hd.cur, hd.code, hd.box h.x1 (by have := h.g0; omega), hd.box h.x2 (by have := h.g1; omega), hd.row h.own (by have := h.g1; omega),
   h.below.grown hd.grown (by have := h.below.size; omega) (fun j hj => by cases hj; have := h.g0; omega), h.g0, h.g1⟩
theorem DrawAt.up {w : World} {G bD : Nat} {a : Option Addr} {len cap : Nat} {gs : List FileV} {a' : Option Addr} {m c' : Nat} {u v : World} (h : DrawAt w G bD a len cap gs a' m c' u) (hb : Below u.heap.size u v) : DrawAt w G bD a len cap gs a' m c' v := by
  have z := h.below.size
  exact ⟨h.cur.up hb, h.code.up hb, h.x1.below hb h.x1.lt, h.x2.below hb h.x2.lt, World.ownsRow.kept h.own (row := none) ⟨hb.os, hb.tape, hb.output, hb.size, fun k hk _ => hb.block k hk⟩ (by cases hv : (Value.slice a' m c').ownBlock <;> simp), h.below.trans (hb.mono z), h.g0, h.g1⟩
theorem DrawAt.drew {w : World} {G bD : Nat} {a : Option Addr} {len cap : Nat} {gs : List FileV} {a' : Option Addr} {m c' : Nat} {u : World} (h : DrawAt w G bD a len cap gs a' m c' u) : DrawAt w G bD a len cap gs a' m c' u.drew := h.up (Below.refl _ _).drew
theorem DrawAt.turn {w : World} {G bD : Nat} {a : Option Addr} {len cap : Nat} {gs : List FileV} {a' : Option Addr} {m c' : Nat} {u : World} (h : DrawAt w G bD a len cap gs a' m c' u) (hlow : Low a len w.heap.size) {hs : List FileV} {a2 : Option Addr} {m2 c2 : Nat} (ho : u.ownsRow (bD + 1) 36 3 (.slice a2 m2 c2) m2 (fcells hs)) :
    DrawAt w G bD a len cap hs a2 m2 c2 (u.setCell ⟨bD, 0, none⟩ (.slice a2 m2 c2)) := by
  have g0 := h.g0
  have g1 := h.g1
  refine ⟨h.cur.set bD 0 _ (by omega), h.code.set bD 0 _ ?_, h.x1.setOther _ (by omega), h.x2.set _, own_setLow ho bD 0 _ (by omega), h.below.setCell (p := ⟨bD, 0, none⟩) (by show w.heap.size ≤ bD; omega) _, g0, g1⟩
  exact hlow.imp id fun hh b off hb => by have := hh b off hb; omega
end Go.Proofs.Ytegknhnmfaafmaa
