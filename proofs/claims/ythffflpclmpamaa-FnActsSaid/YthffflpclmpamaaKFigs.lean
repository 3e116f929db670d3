/- Draws of texts, names and right disks. Lists of ints: how they stand in memory. Draws of places, of what is left, of acts. Draws of acts. Draws of acts. Plain mathematics on figures: no program is named here. -/
import Derived.Test.YthffflpclmpamaaKSFiles
import Derived.Test.YthffflpclmpamaaKOrder
import Derived.Deep.DeepCutAuto
import Derived.Test.YthffflpclmpamaaKSAct2
import Derived.WalkKit
namespace Go.Proofs.Ythffflpclmpamaa
open Go.RowKit

set_option maxRecDepth 100000 in
set_option maxHeartbeats 2000000 in
theorem l01Text_drawn (n : Nat) (hn : n ≤ 5000) (w : World) (G : Nat) (a : Option Addr) (len cap : Nat) (hl : len ≤ 1048576) (hcur : Cur w G a len cap) (hcode : Code w G a len) :
    Calls Try.prog 30 #[.pointer (some ⟨G, 0, none⟩), .int .i64 (n : Int)] w fun e w' => ∃ S : ByteArray, S.size = n ∧ e = .returned (.string S) ∧ Drawn w w' G a len cap := by
  obtain ⟨i0, hi, hz0, hz1, hz2⟩ := info_parts info5
  have hG := hcur.lt
  have hlow := code_low (B := w.heap.size) hcode (Nat.le_refl _)
  have HLow := hideIt hlow
  have HC := hideIt (hcur.alloc (.cells #[] 5))
  have HD := hideIt (hcode.alloc (.cells #[] 5))
  have HB := hideIt (fun (W : World) (hc : Cur W G a len cap) (hd : Code W G a len) => l01Byte_drawn W G a len cap hl hc hd)
  have d0 : decide ((5000 : Int) < (n : Int)) = false := by simp; omega
  clear hcur hcode hlow
  go_enter Try.func30, Try.ntmps30
  go_wp2
  go_loopw [5, 6] (fun out i wr => ∃ (k g c : Nat) (l : List UInt8), k ≤ n ∧ i = .int .i64 k ∧ out = .slice (some ⟨g, 0, none⟩) k c ∧ Hid (l.length = k) ∧ wr.ownsRow w.heap.size 5 1 (.slice (some ⟨g, 0, none⟩) k c) k (bv l) ∧ Hid (Cur wr G a len cap) ∧ Hid (Code wr G a len) ∧ w.grownBy wr (some G))
    (fun _ i _ => n - (intOf i).toNat)
  case atStart => exact ⟨0, w.heap.size, 0, [], by omega, rfl, rfl, rfl, World.ownsRow_made _ _ _ (Nat.le_refl _) (by unfold maxLen; omega) rfl, HC, HD, World.grownBy_alloc w _ (some G)⟩
  case round =>
    obtain ⟨k, g, c, l, hk, rfl, rfl, hll, hown, hc, hd, hb⟩ := hrel
    have hsz := hb.size
    clear HC HD
    by_cases hlt : k < n
    · go_wp2_with (go_at_call 49; refine (HB.out _ hc.out hd.out).mono ?_; rintro e w1 ⟨x, hx, rfl, dr⟩; refine Hid.out ?_)
      refine (show ∀ {p : Prop}, p → Hid p from fun h => h) ?_
      have lg := hown.lt g rfl
      have hown1 := World.ownsRow.kept hown dr.grown (.inr (by simp [Value.ownBlock]; omega))
      have s1 := dr.grown.size
      have hb1 := grownT hb dr.grown
      have HC1 := hideIt dr.cur
      have HD1 := hideIt dr.code
      clear dr hown hb hc hd
      go_wp2_with (at_builtin; refine wpList_append_lies _ rfl _ _ 22 rfl w.heap.size 5 i0 (.int .u8 0) 1 1 Try.underlying22 hi hz0 hz1 hz2 rfl (by decide) _ _ _ rfl (hown1.alloc _) ⟨w1.heap.size, 0, none⟩ 1 1 [Value.int .u8 (x : Int)] rfl rfl (one_new _ _ _) (by intro u hu; simp at hu; subst hu; rfl) (by omega) (by unfold maxLen; omega) (by omega) (by simp; omega) (w1.heap.size + 1) (by simp) ?_)
      intro g2 c2 w2 hown2 hg2 _ _
      have hrow : ∀ j, (Value.slice (some ⟨g, 0, none⟩) k c).ownBlock = some j → w.heap.size ≤ j := fun j hj => by simp [Value.ownBlock] at hj; omega
      have HB2 : Hid (w.grownBy w2 (some G)) := ⟨hg2.os.trans hb1.os, hg2.tape.trans hb1.tape, hg2.output.trans hb1.output, by have := hg2.size; simp at this; omega, fun j hj hne => by
        rw [hg2.block j (by simp; omega) (fun e => by have := hrow j e.symm; omega), Below.heap_alloc _ _ j (by omega)]
        exact hb1.block j hj hne⟩
      have HC2 : Hid (Cur w2 G a len cap) := (HC1.out.alloc _).kept hg2 (by simp [Value.ownBlock]; omega)
      have HD2 : Hid (Code w2 G a len) := code_row (HD1.out.alloc _) HLow.out hg2 hrow
      rw [bv_snoc l (UInt8.ofNat x) x (by simp; omega)] at hown2
      have HL2 : Hid ((l ++ [UInt8.ofNat x]).length = k + 1) := by show _ = _; rw [List.length_append, hll.out]; rfl
      clear hg2 hown1 hb1 HC1 HD1
      go_wp2
      go_roundw
      case rel => exact ⟨k + 1, g2, c2, _, by omega, by go_num, rfl, HL2, hown2, HC2, HD2, HB2⟩
      case measure => simp [intOf]; omega
    · have hcv := conv_at hown
      have HLn : Hid (l.length = n) := by show _ = _; have := hll.out; omega
      clear hown
      go_wp2
      go_ret
      exact ⟨_, by simp [ByteArray.size]; exact HLn.out, rfl, hc.out, hd.out, hb⟩

/-- a name as it must be -/
def NmOk (s : ByteArray) : Prop := 1 ≤ s.size ∧ s.size ≤ 8

theorem l01Pick_any (L n : Nat) (c : Nat) (hn : 0 < n) (hn2 : n ≤ 1000) (w : World) (G : Nat) (a : Option Addr) (len cap : Nat) (hl : len ≤ 1048576) (hcur : Cur w G a len cap) (hcode : Code w G a len) (hL : L < w.heap.size) (hLG : L ≠ G)
    (hcells : ∀ j, j < n → ∃ s : ByteArray, NmOk s ∧ w.cell? ⟨L, j, none⟩ = some (.string s)) :
    Calls Try.prog 34 #[.pointer (some ⟨G, 0, none⟩), .slice (some ⟨L, 0, none⟩) n c] w fun e w' => ∃ s : ByteArray, NmOk s ∧ e = .returned (.string s) ∧ Drawn w w' G a len cap := by
  have HB := hideIt (l01Below_any (n : Int) (by omega) (by omega) w G a len cap hl hcur hcode)
  have HL := hideIt hcells
  clear hcur hcode hcells
  go_enter Try.func34, Try.ntmps34
  go_wp2_with (go_at_call 29; refine HB.out.mono ?_; rintro e w1 ⟨x, hx, rfl, hd⟩; refine Hid.out ?_)
  refine (show ∀ {p : Prop}, p → Hid p from fun h => h) ?_
  have hxn : x < n := by omega
  obtain ⟨z, hzo, hz⟩ := HL.out x hxn
  have hz1 : w1.cell? ⟨L, x, none⟩ = some (.string z) := by rw [World.cell?_of_block (w := w) (hd.grown.block L hL (by simp; exact hLG))]; exact hz
  have b1 : (0 : Int) ≤ (x : Int) := by omega
  clear HB HL hz
  go_wp2
  go_ret
  exact ⟨_, hzo, rfl, hd⟩

theorem eight_cells (w : World) (s : List ByteArray) (hs : s.length = 8) (hok : ∀ x ∈ s, NmOk x) (t : TypeId) : ∀ j, j < 8 → ∃ x : ByteArray, NmOk x ∧ (w.alloc (.cells (s.map fun x => Value.string x).toArray t)).cell? ⟨w.heap.size, j, none⟩ = some (.string x) := by
  intro j hj
  refine ⟨s[j]'(by omega), hok _ (List.getElem_mem _), ?_⟩
  rw [cell_of_row _ _ j _ _ _ (heap_alloc_new w _)]
  simp [show j < s.length by omega]

theorem Drawn.from {w w' : World} {o : Obj} {G : Nat} {a : Option Addr} {len cap : Nat} (h : Drawn (w.alloc o) w' G a len cap) : Drawn w w' G a len cap := ⟨h.cur, h.code, grownT (World.grownBy_alloc w o (some G)) h.grown⟩

theorem names8 : ∀ x ∈ ([⟨#[97]⟩, ⟨#[98]⟩, ⟨#[99]⟩, ⟨#[108, 111, 103]⟩, ⟨#[108, 111, 103, 43]⟩, ⟨#[120]⟩, ⟨#[121]⟩, ⟨#[122]⟩] : List ByteArray), NmOk x := by
  intro x hx
  simp only [List.mem_cons, List.not_mem_nil, or_false] at hx
  rcases hx with rfl | rfl | rfl | rfl | rfl | rfl | rfl | rfl <;> exact ⟨by decide, by decide⟩

theorem l03Named_any (w : World) (G : Nat) (a : Option Addr) (len cap : Nat) (hl : len ≤ 1048576) (hcur : Cur w G a len cap) (hcode : Code w G a len) :
    Calls Try.prog 32 #[.pointer (some ⟨G, 0, none⟩)] w fun e w' => ∃ s : ByteArray, NmOk s ∧ e = .returned (.string s) ∧ Drawn w w' G a len cap := by
  have hG := hcur.lt
  have HP := hideIt (fun (o : Obj) hcells => l01Pick_any w.heap.size 8 8 (by omega) (by omega) (w.alloc o) G a len cap hl (hcur.alloc o) (hcode.alloc o) (by simp) (by omega) hcells)
  clear hcur hcode
  go_enter Try.func32, Try.ntmps32
  go_wp2_with (go_at_call 34; refine (HP.out _ (eight_cells w [⟨#[97]⟩, ⟨#[98]⟩, ⟨#[99]⟩, ⟨#[108, 111, 103]⟩, ⟨#[108, 111, 103, 43]⟩, ⟨#[120]⟩, ⟨#[121]⟩, ⟨#[122]⟩] rfl names8 _)).mono ?_; rintro e w1 ⟨s, hs, rfl, hd⟩)
  go_ret
  exact ⟨_, hs, rfl, hd.from⟩

/-- files in order, each as it must be -/
def Right (gs : List FileV) : Prop := Sorted gs ∧ ∀ f ∈ gs, FileOk f
theorem Right.put {gs : List FileV} (h : Right gs) {f : FileV} (hf : FileOk f) : Right (put gs f) :=
  ⟨sorted_put h.1 f, fun g hg => by
    rcases mem_put.1 hg with rfl | hg
    · exact hf
    · exact h.2 g hg.1⟩
theorem put_short (gs : List FileV) (f : FileV) : (put gs f).length ≤ gs.length + 1 := by
  have h1 := len_parts gs f
  have h2 := without_le gs f.name
  unfold put
  simp only [List.length_append, List.length_cons, List.length_nil]
  omega

theorem Drawn.box {w w' : World} {G : Nat} {a : Option Addr} {len cap : Nat} (h : Drawn w w' G a len cap) {b : Nat} {t : TypeId} {v : Value} (hb : Box w b t v) (hn : b ≠ G) : Box w' b t v := hb.grown h.grown (by simpa using hn)
theorem Drawn.row {w w' : World} {G : Nat} {a : Option Addr} {len cap : Nat} (h : Drawn w w' G a len cap) {B e s n : Nat} {v : Value} {xs : List Value} (ho : w.ownsRow B e s v n xs) (hB : G < B) : w'.ownsRow B e s v n xs :=
  World.ownsRow.kept ho h.grown (.inr fun e => by have := (ho.lt G e).1; omega)
theorem Cur.up {w w' : World} {G : Nat} {a : Option Addr} {len cap : Nat} (h : Cur w G a len cap) (hb : Below w.heap.size w w') : Cur w' G a len cap :=
  h.kept (row := none) ⟨hb.os, hb.tape, hb.output, hb.size, fun k hk _ => hb.block k hk⟩ (by simp)
theorem Code.up {w w' : World} {G : Nat} {a : Option Addr} {len : Nat} (h : Code w G a len) (hb : Below w.heap.size w w') : Code w' G a len :=
  h.keptRow (row := none) ⟨hb.os, hb.tape, hb.output, hb.size, fun k hk _ => hb.block k hk⟩ (fun _ _ _ => by simp)
theorem Code.set {w : World} {G : Nat} {a : Option Addr} {len : Nat} (h : Code w G a len) (b j : Nat) (v : Value) (hlow : Low a len b) : Code (w.setCell ⟨b, j, none⟩ v) G a len :=
  code_row h hlow (grown_set w b j v) (fun k hk => by cases hk; exact Nat.le_refl _)
theorem Cur.set {w : World} {G : Nat} {a : Option Addr} {len cap : Nat} (h : Cur w G a len cap) (b j : Nat) (v : Value) (hb : b ≠ G) : Cur (w.setCell ⟨b, j, none⟩ v) G a len cap :=
  h.kept (grown_set w b j v) (by simpa using Ne.symm hb)

/-- where the drawing of a disk stands -/
structure DrawAt (w : World) (G bD : Nat) (a : Option Addr) (len cap : Nat) (gs : List FileV) (a' : Option Addr) (m c' : Nat) (u : World) : Prop where
  cur : Cur u G a len cap
  code : Code u G a len
  x1 : Box u w.heap.size 26 (.slice none 0 0)
  x2 : Box u bD 26 (.slice a' m c')
  own : u.ownsRow (bD + 1) 49 3 (.slice a' m c') m (fcells gs)
  below : Below w.heap.size w u
  g0 : w.heap.size < G
  g1 : G < bD
theorem DrawAt.drawn {w : World} {G bD : Nat} {a : Option Addr} {len cap : Nat} {gs : List FileV} {a' : Option Addr} {m c' : Nat} {u v : World} (h : DrawAt w G bD a len cap gs a' m c' u) (hd : Drawn u v G a len cap) : DrawAt w G bD a len cap gs a' m c' v :=
  ⟨hd.cur, hd.code, hd.box h.x1 (by have := h.g0; omega), hd.box h.x2 (by have := h.g1; omega), hd.row h.own (by have := h.g1; omega),
   h.below.grown hd.grown (by have := h.below.size; omega) (fun j hj => by cases hj; have := h.g0; omega), h.g0, h.g1⟩
theorem DrawAt.up {w : World} {G bD : Nat} {a : Option Addr} {len cap : Nat} {gs : List FileV} {a' : Option Addr} {m c' : Nat} {u v : World} (h : DrawAt w G bD a len cap gs a' m c' u) (hb : Below u.heap.size u v) : DrawAt w G bD a len cap gs a' m c' v := by
  have z := h.below.size
  exact ⟨h.cur.up hb, h.code.up hb, h.x1.below hb h.x1.lt, h.x2.below hb h.x2.lt, World.ownsRow.kept h.own (row := none) ⟨hb.os, hb.tape, hb.output, hb.size, fun k hk _ => hb.block k hk⟩ (by cases hv : (Value.slice a' m c').ownBlock <;> simp), h.below.trans (hb.mono z), h.g0, h.g1⟩
theorem DrawAt.drew {w : World} {G bD : Nat} {a : Option Addr} {len cap : Nat} {gs : List FileV} {a' : Option Addr} {m c' : Nat} {u : World} (h : DrawAt w G bD a len cap gs a' m c' u) : DrawAt w G bD a len cap gs a' m c' u.drew := h.up (Below.refl _ _).drew
theorem DrawAt.turn {w : World} {G bD : Nat} {a : Option Addr} {len cap : Nat} {gs : List FileV} {a' : Option Addr} {m c' : Nat} {u : World} (h : DrawAt w G bD a len cap gs a' m c' u) (hlow : Low a len w.heap.size) {hs : List FileV} {a2 : Option Addr} {m2 c2 : Nat} (ho : u.ownsRow (bD + 1) 49 3 (.slice a2 m2 c2) m2 (fcells hs)) :
    DrawAt w G bD a len cap hs a2 m2 c2 (u.setCell ⟨bD, 0, none⟩ (.slice a2 m2 c2)) := by
  have g0 := h.g0
  have g1 := h.g1
  refine ⟨h.cur.set bD 0 _ (by omega), h.code.set bD 0 _ ?_, h.x1.setOther _ (by omega), h.x2.set _, own_setLow ho bD 0 _ (by omega), h.below.setCell (p := ⟨bD, 0, none⟩) (by show w.heap.size ≤ bD; omega) _, g0, g1⟩
  exact hlow.imp id fun hh b off hb => by have := hh b off hb; omega
end Go.Proofs.Ythffflpclmpamaa
namespace Go.Proofs.Ythffflpclmpamaa
open Go.RowKit

/-- a list of ints stands in memory below B -/
def Is (w : World) (B : Nat) (a : Option Addr) (n : Nat) (ls : List Int) : Prop :=
  ls.length = n ∧ (n = 0 ∨ ∃ b off, a = some ⟨b, off, none⟩ ∧ b < B ∧ ∀ (j : Nat) (x : Int), ls[j]? = some x → w.cell? ⟨b, off + j, none⟩ = some (.int .i64 x))
theorem Is.below {w w' : World} {B C : Nat} {a : Option Addr} {n : Nat} {ls : List Int} (h : Is w B a n ls) (hb : Below C w w') (hB : B ≤ C) : Is w' B a n ls := by
  refine ⟨h.1, h.2.imp id ?_⟩
  rintro ⟨b, off, h1, h2, h3⟩
  exact ⟨b, off, h1, h2, fun j x hx => by rw [hb.cell (p := ⟨b, _, none⟩) (by show b < _; omega)]; exact h3 j x hx⟩
theorem Is.mono {w : World} {B C : Nat} {a : Option Addr} {n : Nat} {ls : List Int} (h : Is w B a n ls) (hB : B ≤ C) : Is w C a n ls := by
  refine ⟨h.1, h.2.imp id ?_⟩
  rintro ⟨b, off, h1, h2, h3⟩
  exact ⟨b, off, h1, by omega, h3⟩
theorem Is.up {w w' : World} {a : Option Addr} {n : Nat} {ls : List Int} (h : Is w w.heap.size a n ls) (hb : Below w.heap.size w w') : Is w' w'.heap.size a n ls :=
  (h.below hb (Nat.le_refl _)).mono hb.size
def ic (ls : List Int) : List Value := ls.map fun x => Value.int .i64 x
theorem ic_len (ls : List Int) : (ic ls).length = ls.length := by simp [ic]
theorem Is_of_own {w : World} {B g n cap : Nat} {ls : List Int} (h : w.ownsRow B 3 1 (.slice (some ⟨g, 0, none⟩) n cap) n (ic ls)) : Is w w.heap.size (some ⟨g, 0, none⟩) n ls := by
  have hl := h.1
  rw [ic_len] at hl
  refine ⟨by omega, .inr ⟨g, 0, rfl, (h.lt g rfl).2, fun j x hx => ?_⟩⟩
  have := h.cells (g := g) rfl j (.int .i64 x) (by rw [ic, List.getElem?_map, hx]; rfl)
  rw [← this]
  by_cases h0 : j = 0
  · subst h0; rfl
  · simp [Addr.add, h0]
theorem info3i : (Try.prog.info? 3).map (fun i => (i.zero, i.size, i.bytes)) = some (some (.int .i64 0), 1, 8) := by kernel_rfl

end Go.Proofs.Ythffflpclmpamaa
namespace Go.Proofs.Ythffflpclmpamaa
open Go.RowKit

theorem five_cells (w : World) (z0 z1 z2 z3 z4 : Int) (t : TypeId) : ∀ j, j < 5 → ∃ z : Int, (w.alloc (.cells #[.int .i64 z0, .int .i64 z1, .int .i64 z2, .int .i64 z3, .int .i64 z4] t)).cell? ⟨w.heap.size, j, none⟩ = some (.int .i64 z) := by
  intro j hj
  rw [cell_of_row _ w.heap.size j _ t (0, 0) (heap_alloc_new w _)]
  rcases (show j = 0 ∨ j = 1 ∨ j = 2 ∨ j = 3 ∨ j = 4 from by omega) with rfl | rfl | rfl | rfl | rfl <;> exact ⟨_, rfl⟩
set_option maxRecDepth 100000 in
set_option maxHeartbeats 8000000 in
theorem l01Place_any (n : Int) (h0 : 0 < n) (h1 : n ≤ 1000000) (w : World) (G : Nat) (a : Option Addr) (len cap : Nat) (hl : len ≤ 1048576) (hcur : Cur w G a len cap) (hcode : Code w G a len) :
    Calls Try.prog 16 #[.pointer (some ⟨G, 0, none⟩), .int .i64 n] w fun e w' => ∃ x : Int, e = .returned (.int .i64 x) ∧ Drawn w w' G a len cap := by
  have hG := hcur.lt
  have HO := hideIt (l01Once_any 15 (by omega) (by omega) w G a len cap hl hcur hcode)
  clear hcur hcode
  have hw : IntKind.i64.wrap (n + 1) = n + 1 := by rw [IntKind.wrap_i64]; omega
  go_enter Try.func16, Try.ntmps16
  go_wp2_with (go_at_call 38; refine HO.out.mono ?_; rintro e w1 ⟨b, rfl, hd⟩; refine Hid.out ?_)
  refine (show ∀ {p : Prop}, p → Hid p from fun h => h) ?_
  have hs1 := hd.grown.size
  have HD := hideIt hd
  clear hd HO
  cases b with
  | true =>
    have HP := hideIt (l01PickInt_any w1.heap.size 5 5 (by omega) (by omega) _ G a len cap hl (HD.out.cur.alloc (.cells #[.int .i64 (-1), .int .i64 n, .int .i64 (n + 1), .int .i64 9223372036854775807, .int .i64 (-9223372036854775808)] 3)) (HD.out.code.alloc _) (by simp) (by omega) (five_cells w1 _ _ _ _ _ 3))
    go_wp2_with (go_at_call 33; refine HP.out.mono ?_; rintro e w2 ⟨y, rfl, hd2⟩)
    go_ret
    exact ⟨_, rfl, HD.out.trans hd2.from⟩
  | false =>
    have HP := hideIt (l01Below_any n h0 (by omega) w1 G a len cap hl HD.out.cur HD.out.code)
    go_wp2_with (go_at_call 29; refine HP.out.mono ?_; rintro e w2 ⟨y, hy, rfl, hd2⟩)
    go_ret
    exact ⟨_, rfl, HD.out.trans hd2⟩
/-- a row of ours turned behind a draw -/
theorem Drawn.app {w u u' : World} {G : Nat} {a : Option Addr} {len cap : Nat} {row : Option Nat} (h : Drawn w u G a len cap) (hlow : Low a len w.heap.size) (hG : G < w.heap.size) (hg : u.grownBy u' row) (hr : ∀ k, row = some k → w.heap.size ≤ k) : Drawn w u' G a len cap := by
  refine ⟨h.cur.kept hg (fun e => by have := hr G e.symm; omega), code_row h.code hlow hg hr, ⟨hg.os.trans h.grown.os, hg.tape.trans h.grown.tape, hg.output.trans h.grown.output, Nat.le_trans h.grown.size hg.size, fun k hk hne => ?_⟩⟩
  have hs := h.grown.size
  rw [hg.block k (by omega) (fun e => by have := hr k e.symm; omega)]
  exact h.grown.block k hk hne
theorem Drawn.refl {w : World} {G : Nat} {a : Option Addr} {len cap : Nat} (hc : Cur w G a len cap) (hd : Code w G a len) : Drawn w w G a len cap := ⟨hc, hd, ⟨rfl, rfl, rfl, Nat.le_refl _, fun _ _ _ => rfl⟩⟩
set_option maxRecDepth 100000 in
set_option maxHeartbeats 8000000 in
theorem l03Left_any (w : World) (G : Nat) (a : Option Addr) (len cap : Nat) (hl : len ≤ 1048576) (hlow : Low a len w.heap.size) (hcur : Cur w G a len cap) (hcode : Code w G a len) :
    Calls Try.prog 17 #[.pointer (some ⟨G, 0, none⟩)] w fun e w' => ∃ (g m c : Nat) (l : List Int), m ≤ 6 ∧ e = .returned (.slice (some ⟨g, 0, none⟩) m c) ∧ w'.ownsRow w.heap.size 3 1 (.slice (some ⟨g, 0, none⟩) m c) m (ic l) ∧ Drawn w w' G a len cap := by
  obtain ⟨i0, hi, hz0, hz1, hz2⟩ := info_parts info3
  have hG := hcur.lt
  have HL := hideIt hlow
  have H0 := hideIt ((Drawn.refl hcur hcode).app hlow hG (World.grownBy_alloc w (.cells #[] 3) none) (by simp))
  have HB := hideIt (fun (W : World) (hW : Drawn w W G a len cap) => l01Below_any 6 (by omega) (by omega) W G a len cap hl hW.cur hW.code)
  have HP := hideIt (fun (W : World) (hW : Drawn w W G a len cap) => l01PickInt_any W.heap.size 10 10 (by omega) (by omega) _ G a len cap hl (hW.cur.alloc (.cells #[.int .i64 0, .int .i64 1, .int .i64 2, .int .i64 3, .int .i64 5, .int .i64 9, .int .i64 40, .int .i64 200, .int .i64 (-1), .int .i64 9223372036854775807] 3)) (hW.code.alloc _) (by simp) (by have := hW.grown.size; omega) (ten_cells W _ _ _ _ _ _ _ _ _ _ 3))
  clear hcur hcode hlow
  go_enter Try.func17, Try.ntmps17
  go_wp2
  go_loopw [3, 4] (fun out i wr => ∃ (k g c : Nat) (l : List Int), k ≤ 6 ∧ i = .int .i64 k ∧ out = .slice (some ⟨g, 0, none⟩) k c ∧ Hid (wr.ownsRow w.heap.size 3 1 (.slice (some ⟨g, 0, none⟩) k c) k (ic l)) ∧ Hid (Drawn w wr G a len cap)) (fun _ i _ => 7 - (intOf i).toNat)
  case atStart => exact ⟨0, w.heap.size, 0, [], by omega, rfl, rfl, World.ownsRow_made _ _ _ (Nat.le_refl _) (by unfold maxLen; omega) rfl, H0⟩
  case round =>
    obtain ⟨k, g, c, l, hk, rfl, rfl, HO, HD⟩ := hrel
    clear H0
    have hsz := HD.out.grown.size
    have hgl := (HO.out.lt g rfl).1
    go_wp2_with (go_at_call 29; refine (HB.out _ HD.out).mono ?_; rintro e w1 ⟨x, hx, rfl, dr⟩; refine Hid.out ?_)
    refine (show ∀ {p : Prop}, p → Hid p from fun h => h) ?_
    have HD1 := hideIt (HD.out.trans dr)
    have HO1 := hideIt (World.ownsRow.kept HO.out dr.grown (.inr (by simp [Value.ownBlock]; omega)))
    have hs1 := HD1.out.grown.size
    clear HO HD dr
    by_cases hlt : k < x
    · have d1 : decide ((k : Int) < (x : Int)) = true := decide_eq_true (by omega)
      go_wp2_with (go_at_call 33; refine (HP.out _ HD1.out).mono ?_; rintro e w2 ⟨y, rfl, dr2⟩; refine Hid.out ?_)
      refine (show ∀ {p : Prop}, p → Hid p from fun h => h) ?_
      have HD2 := hideIt (HD1.out.trans dr2.from)
      have O2 := World.ownsRow.kept (HO1.out.alloc (.cells #[.int .i64 0, .int .i64 1, .int .i64 2, .int .i64 3, .int .i64 5, .int .i64 9, .int .i64 40, .int .i64 200, .int .i64 (-1), .int .i64 9223372036854775807] 3)) dr2.grown (.inr (by simp [Value.ownBlock]; omega))
      have hs2 := HD2.out.grown.size
      clear HO1 HD1 dr2
      go_wp2_with (at_builtin; refine wpList_append_lies _ rfl _ _ 28 rfl w.heap.size 3 i0 (.int .i64 0) 1 8 Try.underlying28 hi hz0 hz1 hz2 rfl (by decide) _ _ _ rfl (O2.alloc _) ⟨w2.heap.size, 0, none⟩ 1 1 [Value.int .i64 y] rfl rfl (one_new _ _ _) (by intro u hu; simp at hu; subst hu; rfl) (by omega) (by unfold maxLen; omega) (by omega) (by simp; omega) (w2.heap.size + 1) (by simp) ?_; intro g2 c2 w4 hown2 hg2 _ _; refine Hid.out ?_)
      refine (show ∀ {p : Prop}, p → Hid p from fun h => h) ?_
      have hrow : ∀ j, (Value.slice (some ⟨g, 0, none⟩) k c).ownBlock = some j → w.heap.size ≤ j := fun j hj => by simp [Value.ownBlock] at hj; omega
      have HD4 := hideIt ((HD2.out.app HL.out hG (World.grownBy_alloc w2 (.cells #[.int .i64 y] 3) none) (by simp)).app HL.out hG hg2 hrow)
      have HO4 : Hid (w4.ownsRow w.heap.size 3 1 (.slice (some ⟨g2, 0, none⟩) (k + 1) c2) (k + 1) (ic (l ++ [y]))) := by
        have e : ic (l ++ [y]) = ic l ++ [.int .i64 y] := by simp [ic]
        show World.ownsRow _ _ _ _ _ _ _
        rw [e]
        exact hown2
      clear hown2 hg2 HD2 O2
      go_wp2
      exact ⟨⟨k + 1, g2, c2, l ++ [y], by omega, by go_num, rfl, HO4, HD4⟩, by simp [intOf]; omega⟩
    · have d1 : decide ((k : Int) < (x : Int)) = false := decide_eq_false (by omega)
      go_wp2
      go_ret
      exact ⟨g, k, c, l, hk, rfl, HO1.out, HD1.out⟩
end Go.Proofs.Ythffflpclmpamaa
namespace Go.Proofs.Ythffflpclmpamaa
open Go.RowKit

/-- an act in a block of its own -/
def FitB (x : ActV) : Prop := x.name.size ≤ 100 ∧ x.text.size ≤ 100 ∧ x.to.size ≤ 100
theorem FitB.fit {x : ActV} (h : FitB x) : FitA x := ⟨by have := h.1; omega, by have := h.2.1; omega, by have := h.2.2; omega⟩
def actC (x : ActV) : Array Value := #[.int .i64 x.kind, .string x.name, .string x.text, .string x.to]
structure AcAt (w : World) (G : Nat) (a : Option Addr) (len cap bA : Nat) (x : ActV) (u : World) : Prop where
  dr : Drawn w u G a len cap
  res : u.heap[w.heap.size]? = some (.cells #[.int .i64 0, .string ⟨#[]⟩, .string ⟨#[]⟩, .string ⟨#[]⟩] 37 (0, 0))
  box : u.heap[bA]? = some (.cells (actC x) 37 (0, 0))
  high : w.heap.size < bA
  low : G < w.heap.size
  fit : FitB x
theorem AcAt.drawn {w : World} {G : Nat} {a : Option Addr} {len cap bA : Nat} {x : ActV} {u v : World} (h : AcAt w G a len cap bA x u) (hd : Drawn u v G a len cap) : AcAt w G a len cap bA x v := by
  have hl := h.low
  have hh := h.high
  have h1 : w.heap.size < u.heap.size := (Array.getElem?_eq_some_iff.1 h.res).1
  have h2 : bA < u.heap.size := (Array.getElem?_eq_some_iff.1 h.box).1
  exact ⟨h.dr.trans hd, by rw [hd.grown.block _ h1 (by simp; omega)]; exact h.res, by rw [hd.grown.block _ h2 (by simp; omega)]; exact h.box, h.high, h.low, h.fit⟩
theorem AcAt.cells {w : World} {G : Nat} {a : Option Addr} {len cap bA : Nat} {x : ActV} {u : World} (h : AcAt w G a len cap bA x u) :
    u.cell? ⟨bA, 0, none⟩ = some (.int .i64 x.kind) ∧ u.cell? ⟨bA, 1, none⟩ = some (.string x.name) ∧ u.cell? ⟨bA, 2, none⟩ = some (.string x.text) ∧ u.cell? ⟨bA, 3, none⟩ = some (.string x.to) := by
  refine ⟨?_, ?_, ?_, ?_⟩ <;> (rw [cell_of_row _ bA _ _ _ _ h.box]; rfl)
theorem AcAt.sets {w : World} {G : Nat} {a : Option Addr} {len cap bA : Nat} {x : ActV} {u : World} (hlow : Low a len w.heap.size) (h : AcAt w G a len cap bA x u) :
      (∀ z : Int, AcAt w G a len cap bA ⟨z, x.name, x.text, x.to⟩ (u.setCell ⟨bA, 0, none⟩ (.int .i64 z))) ∧
      (∀ S : ByteArray, S.size ≤ 100 → AcAt w G a len cap bA ⟨x.kind, S, x.text, x.to⟩ (u.setCell ⟨bA, 1, none⟩ (.string S))) ∧
      (∀ S : ByteArray, S.size ≤ 100 → AcAt w G a len cap bA ⟨x.kind, x.name, S, x.to⟩ (u.setCell ⟨bA, 2, none⟩ (.string S))) ∧
      (∀ S : ByteArray, S.size ≤ 100 → AcAt w G a len cap bA ⟨x.kind, x.name, x.text, S⟩ (u.setCell ⟨bA, 3, none⟩ (.string S))) := by
  have hh := h.high
  have key : ∀ (j : Nat) (v : Value) (y : ActV), (actC x).setIfInBounds j v = actC y → FitB y → AcAt w G a len cap bA y (u.setCell ⟨bA, j, none⟩ v) := fun j v y e hf => by
    refine ⟨h.dr.app hlow h.low (grown_set u bA j v) (fun k hk => by simp at hk; omega), ?_, ?_, hh, h.low, hf⟩
    · rw [heap_setCell_other u ⟨bA, j, none⟩ w.heap.size v (by show w.heap.size ≠ bA; omega)]
      exact h.res
    · rw [heap_setCell_same u bA j _ _ v h.box, e]
  exact ⟨fun z => key 0 _ _ rfl h.fit, fun S hS => key 1 _ _ rfl ⟨hS, h.fit.2.1, h.fit.2.2⟩, fun S hS => key 2 _ _ rfl ⟨h.fit.1, hS, h.fit.2.2⟩, fun S hS => key 3 _ _ rfl ⟨h.fit.1, h.fit.2.1, hS⟩⟩
set_option maxRecDepth 100000 in
set_option maxHeartbeats 8000000 in
/-- a pick out of texts that are all of one sort -/
theorem l01Pick_of (Q : ByteArray → Prop) (L n : Nat) (c : Nat) (hn : 0 < n) (hn2 : n ≤ 1000) (w : World) (G : Nat) (a : Option Addr) (len cap : Nat) (hl : len ≤ 1048576) (hcur : Cur w G a len cap) (hcode : Code w G a len) (hL : L < w.heap.size) (hLG : L ≠ G)
    (hcells : ∀ j, j < n → ∃ s : ByteArray, Q s ∧ w.cell? ⟨L, j, none⟩ = some (.string s)) :
    Calls Try.prog 34 #[.pointer (some ⟨G, 0, none⟩), .slice (some ⟨L, 0, none⟩) n c] w fun e w' => ∃ s : ByteArray, Q s ∧ e = .returned (.string s) ∧ Drawn w w' G a len cap := by
  have HB := hideIt (l01Below_any (n : Int) (by omega) (by omega) w G a len cap hl hcur hcode)
  have HL := hideIt hcells
  clear hcur hcode hcells
  go_enter Try.func34, Try.ntmps34
  go_wp2_with (go_at_call 29; refine HB.out.mono ?_; rintro e w1 ⟨x, hx, rfl, hd⟩; refine Hid.out ?_)
  refine (show ∀ {p : Prop}, p → Hid p from fun h => h) ?_
  have hxn : x < n := by omega
  obtain ⟨z, hzo, hz⟩ := HL.out x hxn
  have hz1 : w1.cell? ⟨L, x, none⟩ = some (.string z) := by rw [World.cell?_of_block (w := w) (hd.grown.block L hL (by simp; exact hLG))]; exact hz
  have b1 : (0 : Int) ≤ (x : Int) := by omega
  clear HB HL hz
  go_wp2
  go_ret
  exact ⟨_, hzo, rfl, hd⟩
end Go.Proofs.Ythffflpclmpamaa
namespace Go.Proofs.Ythffflpclmpamaa
open Go.RowKit

theorem two_cells (w : World) (z0 z1 : Int) (t : TypeId) : ∀ j, j < 2 → ∃ z : Int, (w.alloc (.cells #[.int .i64 z0, .int .i64 z1] t)).cell? ⟨w.heap.size, j, none⟩ = some (.int .i64 z) := by
  intro j hj
  rw [cell_of_row _ w.heap.size j _ t (0, 0) (heap_alloc_new w _)]
  rcases (show j = 0 ∨ j = 1 from by omega) with rfl | rfl <;> exact ⟨_, rfl⟩
theorem three_cells (w : World) (z0 z1 z2 : ByteArray) (h0 : z0.size ≤ 100) (h1 : z1.size ≤ 100) (h2 : z2.size ≤ 100) (t : TypeId) : ∀ j, j < 3 → ∃ s : ByteArray, s.size ≤ 100 ∧ (w.alloc (.cells #[.string z0, .string z1, .string z2] t)).cell? ⟨w.heap.size, j, none⟩ = some (.string s) := by
  intro j hj
  rw [cell_of_row _ w.heap.size j _ t (0, 0) (heap_alloc_new w _)]
  rcases (show j = 0 ∨ j = 1 ∨ j = 2 from by omega) with rfl | rfl | rfl
  · exact ⟨_, h0, rfl⟩
  · exact ⟨_, h1, rfl⟩
  · exact ⟨_, h2, rfl⟩
theorem AcAt.all {w : World} {G : Nat} {a : Option Addr} {len cap bA : Nat} {x : ActV} {u : World} (h : AcAt w G a len cap bA x u) :
    (u.cell? ⟨bA, 0, none⟩ = some (.int .i64 x.kind) ∧ u.cell? ⟨bA, 1, none⟩ = some (.string x.name) ∧ u.cell? ⟨bA, 2, none⟩ = some (.string x.text) ∧ u.cell? ⟨bA, 3, none⟩ = some (.string x.to)) ∧
    (u.frozen? ⟨bA, 0, none⟩ = false ∧ u.frozen? ⟨bA, 1, none⟩ = false ∧ u.frozen? ⟨bA, 2, none⟩ = false ∧ u.frozen? ⟨bA, 3, none⟩ = false) ∧
    (u.cell? ⟨w.heap.size, 0, none⟩ = some (.int .i64 0) ∧ u.cell? ⟨w.heap.size, 1, none⟩ = some (.string ⟨#[]⟩) ∧ u.cell? ⟨w.heap.size, 2, none⟩ = some (.string ⟨#[]⟩) ∧ u.cell? ⟨w.heap.size, 3, none⟩ = some (.string ⟨#[]⟩)) ∧
    (u.frozen? ⟨w.heap.size, 0, none⟩ = false ∧ u.frozen? ⟨w.heap.size, 1, none⟩ = false ∧ u.frozen? ⟨w.heap.size, 2, none⟩ = false ∧ u.frozen? ⟨w.heap.size, 3, none⟩ = false) := by
  refine ⟨h.cells, ⟨?_, ?_, ?_, ?_⟩, ⟨?_, ?_, ?_, ?_⟩, ?_, ?_, ?_, ?_⟩
  · exact frozen_of_row _ _ 0 _ _ h.box
  · exact frozen_of_row _ _ 1 _ _ h.box
  · exact frozen_of_row _ _ 2 _ _ h.box
  · exact frozen_of_row _ _ 3 _ _ h.box
  · rw [cell_of_row _ _ 0 _ _ _ h.res]; rfl
  · rw [cell_of_row _ _ 1 _ _ _ h.res]; rfl
  · rw [cell_of_row _ _ 2 _ _ _ h.res]; rfl
  · rw [cell_of_row _ _ 3 _ _ _ h.res]; rfl
  · exact frozen_of_row _ _ 0 _ _ h.res
  · exact frozen_of_row _ _ 1 _ _ h.res
  · exact frozen_of_row _ _ 2 _ _ h.res
  · exact frozen_of_row _ _ 3 _ _ h.res
/-- the act as answered -/
def actW (b : Nat) (k : Int) (n t o : ByteArray) (u : World) : World :=
  (((u.setCell ⟨b, 0, none⟩ (.int .i64 k)).setCell ⟨b, 1, none⟩ (.string n)).setCell ⟨b, 2, none⟩ (.string t)).setCell ⟨b, 3, none⟩ (.string o)
theorem AcAt.done {w : World} {G : Nat} {a : Option Addr} {len cap bA : Nat} {x : ActV} {u : World} (hlow : Low a len w.heap.size) (h : AcAt w G a len cap bA x u) :
    Drawn w (actW w.heap.size x.kind x.name x.text x.to u) G a len cap ∧ (actW w.heap.size x.kind x.name x.text x.to u).heap[w.heap.size]? = some (.cells (actC x) 37 (0, 0)) := by
  have hs : ∀ k, some w.heap.size = some k → w.heap.size ≤ k := fun k hk => by simp at hk; omega
  refine ⟨(((h.dr.app hlow h.low (grown_set _ _ _ _) hs).app hlow h.low (grown_set _ _ _ _) hs).app hlow h.low (grown_set _ _ _ _) hs).app hlow h.low (grown_set _ _ _ _) hs, ?_⟩
  have h0 := heap_setCell_same u w.heap.size 0 _ _ (.int .i64 x.kind) h.res
  have h1 := heap_setCell_same _ w.heap.size 1 _ _ (.string x.name) h0
  have h2 := heap_setCell_same _ w.heap.size 2 _ _ (.string x.text) h1
  have h3 := heap_setCell_same _ w.heap.size 3 _ _ (.string x.to) h2
  exact h3
set_option maxRecDepth 100000 in
set_option maxHeartbeats 8000000 in
theorem l03Act_any (w : World) (G : Nat) (a : Option Addr) (len cap : Nat) (hl : len ≤ 1048576) (hlow : Low a len w.heap.size) (hcur : Cur w G a len cap) (hcode : Code w G a len) :
    Calls Try.prog 37 #[.pointer (some ⟨G, 0, none⟩)] w fun e w' => ∃ x : ActV, FitB x ∧ e = .returned (actV x) ∧ Drawn w w' G a len cap := by
  have hG := hcur.lt
  have HL := hideIt hlow
  have H0 := hideIt ((Drawn.refl hcur hcode).app hlow hG (World.grownBy_alloc w (.cells #[.int .i64 0, .string ⟨#[]⟩, .string ⟨#[]⟩, .string ⟨#[]⟩] 37) none) (by simp))
  have HB := hideIt (fun (n : Int) (h0 : 0 < n) (h1 : n ≤ 4294967296) (W : World) (hW : Drawn w W G a len cap) => l01Below_any n h0 h1 W G a len cap hl hW.cur hW.code)
  have HM := hideIt (fun (W : World) (hW : Drawn w W G a len cap) => l03Named_any W G a len cap hl hW.cur hW.code)
  have HT := hideIt (fun (n : Nat) (hn : n ≤ 5000) (W : World) (hW : Drawn w W G a len cap) => l01Text_drawn n hn W G a len cap hl hW.cur hW.code)
  clear hcur hcode hlow
  go_enter Try.func37, Try.ntmps37
  go_wp2_with (go_at_call 29; refine (HB.out 4 (by omega) (by omega) _ H0.out).mono ?_; rintro e w1 ⟨x, hx, rfl, dr1⟩; refine Hid.out ?_)
  refine (show ∀ {p : Prop}, p → Hid p from fun h => h) ?_
  have D1 := hideIt (H0.out.trans dr1)
  have hk : IntKind.i64.wrap (1 + (x : Int)) = 1 + (x : Int) := by rw [IntKind.wrap_i64]; omega
  go_wp2_with (go_at_call 32; refine (HM.out _ D1.out).mono ?_; rintro e w2 ⟨nm, hnm, rfl, dr2⟩; refine Hid.out ?_)
  refine (show ∀ {p : Prop}, p → Hid p from fun h => h) ?_
  have D2 := hideIt (D1.out.trans dr2)
  have A3 : AcAt w G a len cap w2.heap.size ⟨1 + (x : Int), nm, ⟨#[]⟩, ⟨#[]⟩⟩ (w2.alloc (.cells #[.int .i64 (1 + (x : Int)), .string nm, .string ⟨#[]⟩, .string ⟨#[]⟩] 37)) := by
    have s0 : (w.alloc (.cells #[.int .i64 0, .string ⟨#[]⟩, .string ⟨#[]⟩, .string ⟨#[]⟩] 37)).heap.size = w.heap.size + 1 := by simp
    have s1 := dr1.grown.size
    have s2 := dr2.grown.size
    have hres : w2.heap[w.heap.size]? = some (.cells #[.int .i64 0, .string ⟨#[]⟩, .string ⟨#[]⟩, .string ⟨#[]⟩] 37 (0, 0)) := by
      rw [dr2.grown.block _ (by omega) (by simp; omega), dr1.grown.block _ (by omega) (by simp; omega)]
      exact heap_alloc_new w _
    refine ⟨D2.out.app HL.out hG (World.grownBy_alloc w2 _ none) (by simp), ?_, heap_alloc_new w2 _, by omega, hG, ?_⟩
    · rw [(World.grownBy_alloc w2 _ none).block _ (by omega) (by simp)]
      exact hres
    · have := hnm.2
      exact ⟨by show nm.size ≤ _; omega, by show (0 : Nat) ≤ _; omega, by show (0 : Nat) ≤ _; omega⟩
  clear H0 D1 D2 dr1 dr2
  have HSet : Hid (∀ (bA : Nat) (x : ActV) (u : World), AcAt w G a len cap bA x u →
      (∀ z : Int, AcAt w G a len cap bA ⟨z, x.name, x.text, x.to⟩ (u.setCell ⟨bA, 0, none⟩ (.int .i64 z))) ∧
      (∀ S : ByteArray, S.size ≤ 100 → AcAt w G a len cap bA ⟨x.kind, S, x.text, x.to⟩ (u.setCell ⟨bA, 1, none⟩ (.string S))) ∧
      (∀ S : ByteArray, S.size ≤ 100 → AcAt w G a len cap bA ⟨x.kind, x.name, S, x.to⟩ (u.setCell ⟨bA, 2, none⟩ (.string S))) ∧
      (∀ S : ByteArray, S.size ≤ 100 → AcAt w G a len cap bA ⟨x.kind, x.name, x.text, S⟩ (u.setCell ⟨bA, 3, none⟩ (.string S)))) := fun bA x u h => AcAt.sets HL.out h
  have HPI := hideIt (fun (W : World) (hW : Drawn w W G a len cap) (o : Obj) (hc : ∀ j, j < 2 → ∃ z : Int, (W.alloc o).cell? ⟨W.heap.size, j, none⟩ = some (.int .i64 z)) => l01PickInt_any W.heap.size 2 2 (by omega) (by omega) (W.alloc o) G a len cap hl (hW.cur.alloc o) (hW.code.alloc o) (by simp) (by have := hW.grown.size; omega) hc)
  have HPT := hideIt (fun (W : World) (hW : Drawn w W G a len cap) (o : Obj) (hc : ∀ j, j < 3 → ∃ s : ByteArray, s.size ≤ 100 ∧ (W.alloc o).cell? ⟨W.heap.size, j, none⟩ = some (.string s)) => l01Pick_of (fun s => s.size ≤ 100) W.heap.size 3 3 (by omega) (by omega) (W.alloc o) G a len cap hl (hW.cur.alloc o) (hW.code.alloc o) (by simp) (by have := hW.grown.size; omega) hc)
  have HA := hideIt A3
  have hnm2 := hnm.2
  clear A3
  go_upto_region 3 with fail
  by_cases k1 : x = 0
  · subst k1
    rw [show 1 + ((0 : Nat) : Int) = 1 from rfl] at HA
    go_wp2_with (go_at_call 29; refine (HB.out 6 (by omega) (by omega) _ HA.out.dr).mono ?_; rintro e w3 ⟨y, hy, rfl, dr3⟩; refine Hid.out ?_)
    refine (show ∀ {p : Prop}, p → Hid p from fun h => h) ?_
    have HA3 := hideIt (HA.out.drawn dr3)
    clear HA dr3
    go_wp2_with (go_at_call 30; refine (HT.out y (by omega) _ HA3.out.dr).mono ?_; rintro e w4 ⟨S, hS, rfl, dr4⟩; refine Hid.out ?_)
    refine (show ∀ {p : Prop}, p → Hid p from fun h => h) ?_
    have HA4 := hideIt (HA3.out.drawn dr4)
    have HA5 := hideIt ((HSet.out _ _ _ HA4.out).2.2.1 S (by omega))
    obtain ⟨⟨ac0, ac1, ac2, ac3⟩, ⟨af0, af1, af2, af3⟩, ⟨ar0, ar1, ar2, ar3⟩, ⟨ag0, ag1, ag2, ag3⟩⟩ := HA4.out.all
    clear HA3 HA4 dr4
    go_wp2_with (go_at_call 29; refine (HB.out 40 (by omega) (by omega) _ HA5.out.dr).mono ?_; rintro e w5 ⟨z, hz, rfl, dr5⟩; refine Hid.out ?_)
    refine (show ∀ {p : Prop}, p → Hid p from fun h => h) ?_
    have HA7 := hideIt (HA5.out.drawn dr5)
    clear HA5 dr5
    by_cases z4 : 4 ≤ z
    · have y0 : ((z : Int) == 0) = false := by
        have : (z : Int) ≠ 0 := by omega
        simpa using this
      have y1 : ((z : Int) == 1) = false := by
        have : (z : Int) ≠ 1 := by omega
        simpa using this
      have y2 : ((z : Int) == 2) = false := by
        have : (z : Int) ≠ 2 := by omega
        simpa using this
      have y3 : ((z : Int) == 3) = false := by
        have : (z : Int) ≠ 3 := by omega
        simpa using this
      obtain ⟨⟨c0, c1, c2, c3⟩, ⟨f0, f1, f2, f3⟩, ⟨r0, r1, r2, r3⟩, ⟨g0, g1, g2, g3⟩⟩ := HA7.out.all
      have hfin := AcAt.done HL.out HA7.out
      have hft := HA7.out.fit
      obtain ⟨hfd, hfh⟩ := hfin
      have s0 := cell_of_row _ _ 0 _ _ _ hfh
      have s1 := cell_of_row _ _ 1 _ _ _ hfh
      have s2 := cell_of_row _ _ 2 _ _ _ hfh
      have s3 := cell_of_row _ _ 3 _ _ _ hfh
      simp only [actC, actW] at s0 s1 s2 s3
      clear hfh HA7
      go_wp2
      refine bodyPost_ret (v := actV ⟨1, nm, S, ⟨#[]⟩⟩) ?_ rfl ⟨_, hft, rfl, hfd⟩
      simp [results, Try.results37, go_sem, s0, s1, s2, s3, actV]
    · rcases (show z = 0 ∨ z = 1 ∨ z = 2 ∨ z = 3 by omega) with rfl | rfl | rfl | rfl
      · go_wp2_with (go_at_call 33; refine (HPI.out _ HA7.out.dr _ (two_cells _ _ _ 3)).mono ?_; rintro e w6 ⟨y6, rfl, dr6⟩; refine Hid.out ?_)
        refine (show ∀ {p : Prop}, p → Hid p from fun h => h) ?_
        have HA8 := hideIt (HA7.out.drawn dr6.from)
        have HA9 := hideIt ((HSet.out _ _ _ HA8.out).1 y6)
        obtain ⟨⟨bc0, bc1, bc2, bc3⟩, ⟨bf0, bf1, bf2, bf3⟩, ⟨br0, br1, br2, br3⟩, ⟨bg0, bg1, bg2, bg3⟩⟩ := HA8.out.all
        clear HA7 HA8 dr6
        obtain ⟨⟨c0, c1, c2, c3⟩, ⟨f0, f1, f2, f3⟩, ⟨r0, r1, r2, r3⟩, ⟨g0, g1, g2, g3⟩⟩ := HA9.out.all
        have hfin := AcAt.done HL.out HA9.out
        have hft := HA9.out.fit
        obtain ⟨hfd, hfh⟩ := hfin
        have s0 := cell_of_row _ _ 0 _ _ _ hfh
        have s1 := cell_of_row _ _ 1 _ _ _ hfh
        have s2 := cell_of_row _ _ 2 _ _ _ hfh
        have s3 := cell_of_row _ _ 3 _ _ _ hfh
        simp only [actC, actW] at s0 s1 s2 s3
        clear hfh HA9
        go_wp2
        refine bodyPost_ret (v := actV ⟨y6, nm, S, ⟨#[]⟩⟩) ?_ rfl ⟨_, hft, rfl, hfd⟩
        simp [results, Try.results37, go_sem, s0, s1, s2, s3, actV]
      · go_wp2_with (go_at_call 34; refine (HPT.out _ HA7.out.dr _ (three_cells _ _ _ _ (by decide) (by decide) (by decide) 9)).mono ?_; rintro e w6 ⟨y6, hy6, rfl, dr6⟩; refine Hid.out ?_)
        refine (show ∀ {p : Prop}, p → Hid p from fun h => h) ?_
        have HA8 := hideIt (HA7.out.drawn dr6.from)
        have HA9 := hideIt ((HSet.out _ _ _ HA8.out).2.1 y6 hy6)
        obtain ⟨⟨bc0, bc1, bc2, bc3⟩, ⟨bf0, bf1, bf2, bf3⟩, ⟨br0, br1, br2, br3⟩, ⟨bg0, bg1, bg2, bg3⟩⟩ := HA8.out.all
        clear HA7 HA8 dr6
        obtain ⟨⟨c0, c1, c2, c3⟩, ⟨f0, f1, f2, f3⟩, ⟨r0, r1, r2, r3⟩, ⟨g0, g1, g2, g3⟩⟩ := HA9.out.all
        have hfin := AcAt.done HL.out HA9.out
        have hft := HA9.out.fit
        obtain ⟨hfd, hfh⟩ := hfin
        have s0 := cell_of_row _ _ 0 _ _ _ hfh
        have s1 := cell_of_row _ _ 1 _ _ _ hfh
        have s2 := cell_of_row _ _ 2 _ _ _ hfh
        have s3 := cell_of_row _ _ 3 _ _ _ hfh
        simp only [actC, actW] at s0 s1 s2 s3
        clear hfh HA9
        go_wp2
        refine bodyPost_ret (v := actV ⟨1, y6, S, ⟨#[]⟩⟩) ?_ rfl ⟨_, hft, rfl, hfd⟩
        simp [results, Try.results37, go_sem, s0, s1, s2, s3, actV]
      · have HA9 := hideIt ((HSet.out _ _ _ HA7.out).2.2.2 ⟨#[120]⟩ (by decide))
        obtain ⟨⟨bc0, bc1, bc2, bc3⟩, ⟨bf0, bf1, bf2, bf3⟩, ⟨br0, br1, br2, br3⟩, ⟨bg0, bg1, bg2, bg3⟩⟩ := HA7.out.all
        clear HA7
        obtain ⟨⟨c0, c1, c2, c3⟩, ⟨f0, f1, f2, f3⟩, ⟨r0, r1, r2, r3⟩, ⟨g0, g1, g2, g3⟩⟩ := HA9.out.all
        have hfin := AcAt.done HL.out HA9.out
        have hft := HA9.out.fit
        obtain ⟨hfd, hfh⟩ := hfin
        have s0 := cell_of_row _ _ 0 _ _ _ hfh
        have s1 := cell_of_row _ _ 1 _ _ _ hfh
        have s2 := cell_of_row _ _ 2 _ _ _ hfh
        have s3 := cell_of_row _ _ 3 _ _ _ hfh
        simp only [actC, actW] at s0 s1 s2 s3
        clear hfh HA9
        go_wp2
        refine bodyPost_ret (v := actV ⟨1, nm, S, ⟨#[120]⟩⟩) ?_ rfl ⟨_, hft, rfl, hfd⟩
        simp [results, Try.results37, go_sem, s0, s1, s2, s3, actV]
      · have HA9 := hideIt ((HSet.out _ _ _ HA7.out).2.2.1 ⟨#[120]⟩ (by decide))
        obtain ⟨⟨bc0, bc1, bc2, bc3⟩, ⟨bf0, bf1, bf2, bf3⟩, ⟨br0, br1, br2, br3⟩, ⟨bg0, bg1, bg2, bg3⟩⟩ := HA7.out.all
        clear HA7
        obtain ⟨⟨c0, c1, c2, c3⟩, ⟨f0, f1, f2, f3⟩, ⟨r0, r1, r2, r3⟩, ⟨g0, g1, g2, g3⟩⟩ := HA9.out.all
        have hfin := AcAt.done HL.out HA9.out
        have hft := HA9.out.fit
        obtain ⟨hfd, hfh⟩ := hfin
        have s0 := cell_of_row _ _ 0 _ _ _ hfh
        have s1 := cell_of_row _ _ 1 _ _ _ hfh
        have s2 := cell_of_row _ _ 2 _ _ _ hfh
        have s3 := cell_of_row _ _ 3 _ _ _ hfh
        simp only [actC, actW] at s0 s1 s2 s3
        clear hfh HA9
        go_wp2
        refine bodyPost_ret (v := actV ⟨1, nm, ⟨#[120]⟩, ⟨#[]⟩⟩) ?_ rfl ⟨_, hft, rfl, hfd⟩
        simp [results, Try.results37, go_sem, s0, s1, s2, s3, actV]
  · by_cases k2 : x = 2
    · subst k2
      rw [show 1 + ((2 : Nat) : Int) = 3 from rfl] at HA
      go_wp2_with (go_at_call 32; refine (HM.out _ HA.out.dr).mono ?_; rintro e w4 ⟨S, hS, rfl, dr4⟩; refine Hid.out ?_)
      refine (show ∀ {p : Prop}, p → Hid p from fun h => h) ?_
      have hS2 := hS.2
      have HA4 := hideIt (HA.out.drawn dr4)
      have HA5 := hideIt ((HSet.out _ _ _ HA4.out).2.2.2 S (by omega))
      obtain ⟨⟨ac0, ac1, ac2, ac3⟩, ⟨af0, af1, af2, af3⟩, ⟨ar0, ar1, ar2, ar3⟩, ⟨ag0, ag1, ag2, ag3⟩⟩ := HA4.out.all
      clear HA HA4 dr4
      go_wp2_with (go_at_call 29; refine (HB.out 40 (by omega) (by omega) _ HA5.out.dr).mono ?_; rintro e w5 ⟨z, hz, rfl, dr5⟩; refine Hid.out ?_)
      refine (show ∀ {p : Prop}, p → Hid p from fun h => h) ?_
      have HA7 := hideIt (HA5.out.drawn dr5)
      clear HA5 dr5
      by_cases z4 : 4 ≤ z
      · have y0 : ((z : Int) == 0) = false := by
          have : (z : Int) ≠ 0 := by omega
          simpa using this
        have y1 : ((z : Int) == 1) = false := by
          have : (z : Int) ≠ 1 := by omega
          simpa using this
        have y2 : ((z : Int) == 2) = false := by
          have : (z : Int) ≠ 2 := by omega
          simpa using this
        have y3 : ((z : Int) == 3) = false := by
          have : (z : Int) ≠ 3 := by omega
          simpa using this
        obtain ⟨⟨c0, c1, c2, c3⟩, ⟨f0, f1, f2, f3⟩, ⟨r0, r1, r2, r3⟩, ⟨g0, g1, g2, g3⟩⟩ := HA7.out.all
        have hfin := AcAt.done HL.out HA7.out
        have hft := HA7.out.fit
        obtain ⟨hfd, hfh⟩ := hfin
        have s0 := cell_of_row _ _ 0 _ _ _ hfh
        have s1 := cell_of_row _ _ 1 _ _ _ hfh
        have s2 := cell_of_row _ _ 2 _ _ _ hfh
        have s3 := cell_of_row _ _ 3 _ _ _ hfh
        simp only [actC, actW] at s0 s1 s2 s3
        clear hfh HA7
        go_wp2
        refine bodyPost_ret (v := actV ⟨3, nm, ⟨#[]⟩, S⟩) ?_ rfl ⟨_, hft, rfl, hfd⟩
        simp [results, Try.results37, go_sem, s0, s1, s2, s3, actV]
      · rcases (show z = 0 ∨ z = 1 ∨ z = 2 ∨ z = 3 by omega) with rfl | rfl | rfl | rfl
        · go_wp2_with (go_at_call 33; refine (HPI.out _ HA7.out.dr _ (two_cells _ _ _ 3)).mono ?_; rintro e w6 ⟨y6, rfl, dr6⟩; refine Hid.out ?_)
          refine (show ∀ {p : Prop}, p → Hid p from fun h => h) ?_
          have HA8 := hideIt (HA7.out.drawn dr6.from)
          have HA9 := hideIt ((HSet.out _ _ _ HA8.out).1 y6)
          obtain ⟨⟨bc0, bc1, bc2, bc3⟩, ⟨bf0, bf1, bf2, bf3⟩, ⟨br0, br1, br2, br3⟩, ⟨bg0, bg1, bg2, bg3⟩⟩ := HA8.out.all
          clear HA7 HA8 dr6
          obtain ⟨⟨c0, c1, c2, c3⟩, ⟨f0, f1, f2, f3⟩, ⟨r0, r1, r2, r3⟩, ⟨g0, g1, g2, g3⟩⟩ := HA9.out.all
          have hfin := AcAt.done HL.out HA9.out
          have hft := HA9.out.fit
          obtain ⟨hfd, hfh⟩ := hfin
          have s0 := cell_of_row _ _ 0 _ _ _ hfh
          have s1 := cell_of_row _ _ 1 _ _ _ hfh
          have s2 := cell_of_row _ _ 2 _ _ _ hfh
          have s3 := cell_of_row _ _ 3 _ _ _ hfh
          simp only [actC, actW] at s0 s1 s2 s3
          clear hfh HA9
          go_wp2
          refine bodyPost_ret (v := actV ⟨y6, nm, ⟨#[]⟩, S⟩) ?_ rfl ⟨_, hft, rfl, hfd⟩
          simp [results, Try.results37, go_sem, s0, s1, s2, s3, actV]
        · go_wp2_with (go_at_call 34; refine (HPT.out _ HA7.out.dr _ (three_cells _ _ _ _ (by decide) (by decide) (by decide) 9)).mono ?_; rintro e w6 ⟨y6, hy6, rfl, dr6⟩; refine Hid.out ?_)
          refine (show ∀ {p : Prop}, p → Hid p from fun h => h) ?_
          have HA8 := hideIt (HA7.out.drawn dr6.from)
          have HA9 := hideIt ((HSet.out _ _ _ HA8.out).2.1 y6 hy6)
          obtain ⟨⟨bc0, bc1, bc2, bc3⟩, ⟨bf0, bf1, bf2, bf3⟩, ⟨br0, br1, br2, br3⟩, ⟨bg0, bg1, bg2, bg3⟩⟩ := HA8.out.all
          clear HA7 HA8 dr6
          obtain ⟨⟨c0, c1, c2, c3⟩, ⟨f0, f1, f2, f3⟩, ⟨r0, r1, r2, r3⟩, ⟨g0, g1, g2, g3⟩⟩ := HA9.out.all
          have hfin := AcAt.done HL.out HA9.out
          have hft := HA9.out.fit
          obtain ⟨hfd, hfh⟩ := hfin
          have s0 := cell_of_row _ _ 0 _ _ _ hfh
          have s1 := cell_of_row _ _ 1 _ _ _ hfh
          have s2 := cell_of_row _ _ 2 _ _ _ hfh
          have s3 := cell_of_row _ _ 3 _ _ _ hfh
          simp only [actC, actW] at s0 s1 s2 s3
          clear hfh HA9
          go_wp2
          refine bodyPost_ret (v := actV ⟨3, y6, ⟨#[]⟩, S⟩) ?_ rfl ⟨_, hft, rfl, hfd⟩
          simp [results, Try.results37, go_sem, s0, s1, s2, s3, actV]
        · have HA9 := hideIt ((HSet.out _ _ _ HA7.out).2.2.2 ⟨#[120]⟩ (by decide))
          obtain ⟨⟨bc0, bc1, bc2, bc3⟩, ⟨bf0, bf1, bf2, bf3⟩, ⟨br0, br1, br2, br3⟩, ⟨bg0, bg1, bg2, bg3⟩⟩ := HA7.out.all
          clear HA7
          obtain ⟨⟨c0, c1, c2, c3⟩, ⟨f0, f1, f2, f3⟩, ⟨r0, r1, r2, r3⟩, ⟨g0, g1, g2, g3⟩⟩ := HA9.out.all
          have hfin := AcAt.done HL.out HA9.out
          have hft := HA9.out.fit
          obtain ⟨hfd, hfh⟩ := hfin
          have s0 := cell_of_row _ _ 0 _ _ _ hfh
          have s1 := cell_of_row _ _ 1 _ _ _ hfh
          have s2 := cell_of_row _ _ 2 _ _ _ hfh
          have s3 := cell_of_row _ _ 3 _ _ _ hfh
          simp only [actC, actW] at s0 s1 s2 s3
          clear hfh HA9
          go_wp2
          refine bodyPost_ret (v := actV ⟨3, nm, ⟨#[]⟩, ⟨#[120]⟩⟩) ?_ rfl ⟨_, hft, rfl, hfd⟩
          simp [results, Try.results37, go_sem, s0, s1, s2, s3, actV]
        · have HA9 := hideIt ((HSet.out _ _ _ HA7.out).2.2.1 ⟨#[120]⟩ (by decide))
          obtain ⟨⟨bc0, bc1, bc2, bc3⟩, ⟨bf0, bf1, bf2, bf3⟩, ⟨br0, br1, br2, br3⟩, ⟨bg0, bg1, bg2, bg3⟩⟩ := HA7.out.all
          clear HA7
          obtain ⟨⟨c0, c1, c2, c3⟩, ⟨f0, f1, f2, f3⟩, ⟨r0, r1, r2, r3⟩, ⟨g0, g1, g2, g3⟩⟩ := HA9.out.all
          have hfin := AcAt.done HL.out HA9.out
          have hft := HA9.out.fit
          obtain ⟨hfd, hfh⟩ := hfin
          have s0 := cell_of_row _ _ 0 _ _ _ hfh
          have s1 := cell_of_row _ _ 1 _ _ _ hfh
          have s2 := cell_of_row _ _ 2 _ _ _ hfh
          have s3 := cell_of_row _ _ 3 _ _ _ hfh
          simp only [actC, actW] at s0 s1 s2 s3
          clear hfh HA9
          go_wp2
          refine bodyPost_ret (v := actV ⟨3, nm, ⟨#[120]⟩, S⟩) ?_ rfl ⟨_, hft, rfl, hfd⟩
          simp [results, Try.results37, go_sem, s0, s1, s2, s3, actV]
    · have d1 : (1 + (x : Int) == 1) = false := by
        have : 1 + (x : Int) ≠ 1 := by omega
        simpa using this
      have d2 : (1 + (x : Int) == 3) = false := by
        have : 1 + (x : Int) ≠ 3 := by omega
        simpa using this
      go_wp2_with (go_at_call 29; refine (HB.out 40 (by omega) (by omega) _ HA.out.dr).mono ?_; rintro e w5 ⟨z, hz, rfl, dr5⟩; refine Hid.out ?_)
      refine (show ∀ {p : Prop}, p → Hid p from fun h => h) ?_
      have HA7 := hideIt (HA.out.drawn dr5)
      clear HA dr5
      by_cases z4 : 4 ≤ z
      · have y0 : ((z : Int) == 0) = false := by
          have : (z : Int) ≠ 0 := by omega
          simpa using this
        have y1 : ((z : Int) == 1) = false := by
          have : (z : Int) ≠ 1 := by omega
          simpa using this
        have y2 : ((z : Int) == 2) = false := by
          have : (z : Int) ≠ 2 := by omega
          simpa using this
        have y3 : ((z : Int) == 3) = false := by
          have : (z : Int) ≠ 3 := by omega
          simpa using this
        obtain ⟨⟨c0, c1, c2, c3⟩, ⟨f0, f1, f2, f3⟩, ⟨r0, r1, r2, r3⟩, ⟨g0, g1, g2, g3⟩⟩ := HA7.out.all
        have hfin := AcAt.done HL.out HA7.out
        have hft := HA7.out.fit
        obtain ⟨hfd, hfh⟩ := hfin
        have s0 := cell_of_row _ _ 0 _ _ _ hfh
        have s1 := cell_of_row _ _ 1 _ _ _ hfh
        have s2 := cell_of_row _ _ 2 _ _ _ hfh
        have s3 := cell_of_row _ _ 3 _ _ _ hfh
        simp only [actC, actW] at s0 s1 s2 s3
        clear hfh HA7
        go_wp2
        refine bodyPost_ret (v := actV ⟨1 + (x : Int), nm, ⟨#[]⟩, ⟨#[]⟩⟩) ?_ rfl ⟨_, hft, rfl, hfd⟩
        simp [results, Try.results37, go_sem, s0, s1, s2, s3, actV]
      · rcases (show z = 0 ∨ z = 1 ∨ z = 2 ∨ z = 3 by omega) with rfl | rfl | rfl | rfl
        · go_wp2_with (go_at_call 33; refine (HPI.out _ HA7.out.dr _ (two_cells _ _ _ 3)).mono ?_; rintro e w6 ⟨y6, rfl, dr6⟩; refine Hid.out ?_)
          refine (show ∀ {p : Prop}, p → Hid p from fun h => h) ?_
          have HA8 := hideIt (HA7.out.drawn dr6.from)
          have HA9 := hideIt ((HSet.out _ _ _ HA8.out).1 y6)
          obtain ⟨⟨bc0, bc1, bc2, bc3⟩, ⟨bf0, bf1, bf2, bf3⟩, ⟨br0, br1, br2, br3⟩, ⟨bg0, bg1, bg2, bg3⟩⟩ := HA8.out.all
          clear HA7 HA8 dr6
          obtain ⟨⟨c0, c1, c2, c3⟩, ⟨f0, f1, f2, f3⟩, ⟨r0, r1, r2, r3⟩, ⟨g0, g1, g2, g3⟩⟩ := HA9.out.all
          have hfin := AcAt.done HL.out HA9.out
          have hft := HA9.out.fit
          obtain ⟨hfd, hfh⟩ := hfin
          have s0 := cell_of_row _ _ 0 _ _ _ hfh
          have s1 := cell_of_row _ _ 1 _ _ _ hfh
          have s2 := cell_of_row _ _ 2 _ _ _ hfh
          have s3 := cell_of_row _ _ 3 _ _ _ hfh
          simp only [actC, actW] at s0 s1 s2 s3
          clear hfh HA9
          go_wp2
          refine bodyPost_ret (v := actV ⟨y6, nm, ⟨#[]⟩, ⟨#[]⟩⟩) ?_ rfl ⟨_, hft, rfl, hfd⟩
          simp [results, Try.results37, go_sem, s0, s1, s2, s3, actV]
        · go_wp2_with (go_at_call 34; refine (HPT.out _ HA7.out.dr _ (three_cells _ _ _ _ (by decide) (by decide) (by decide) 9)).mono ?_; rintro e w6 ⟨y6, hy6, rfl, dr6⟩; refine Hid.out ?_)
          refine (show ∀ {p : Prop}, p → Hid p from fun h => h) ?_
          have HA8 := hideIt (HA7.out.drawn dr6.from)
          have HA9 := hideIt ((HSet.out _ _ _ HA8.out).2.1 y6 hy6)
          obtain ⟨⟨bc0, bc1, bc2, bc3⟩, ⟨bf0, bf1, bf2, bf3⟩, ⟨br0, br1, br2, br3⟩, ⟨bg0, bg1, bg2, bg3⟩⟩ := HA8.out.all
          clear HA7 HA8 dr6
          obtain ⟨⟨c0, c1, c2, c3⟩, ⟨f0, f1, f2, f3⟩, ⟨r0, r1, r2, r3⟩, ⟨g0, g1, g2, g3⟩⟩ := HA9.out.all
          have hfin := AcAt.done HL.out HA9.out
          have hft := HA9.out.fit
          obtain ⟨hfd, hfh⟩ := hfin
          have s0 := cell_of_row _ _ 0 _ _ _ hfh
          have s1 := cell_of_row _ _ 1 _ _ _ hfh
          have s2 := cell_of_row _ _ 2 _ _ _ hfh
          have s3 := cell_of_row _ _ 3 _ _ _ hfh
          simp only [actC, actW] at s0 s1 s2 s3
          clear hfh HA9
          go_wp2
          refine bodyPost_ret (v := actV ⟨1 + (x : Int), y6, ⟨#[]⟩, ⟨#[]⟩⟩) ?_ rfl ⟨_, hft, rfl, hfd⟩
          simp [results, Try.results37, go_sem, s0, s1, s2, s3, actV]
        · have HA9 := hideIt ((HSet.out _ _ _ HA7.out).2.2.2 ⟨#[120]⟩ (by decide))
          obtain ⟨⟨bc0, bc1, bc2, bc3⟩, ⟨bf0, bf1, bf2, bf3⟩, ⟨br0, br1, br2, br3⟩, ⟨bg0, bg1, bg2, bg3⟩⟩ := HA7.out.all
          clear HA7
          obtain ⟨⟨c0, c1, c2, c3⟩, ⟨f0, f1, f2, f3⟩, ⟨r0, r1, r2, r3⟩, ⟨g0, g1, g2, g3⟩⟩ := HA9.out.all
          have hfin := AcAt.done HL.out HA9.out
          have hft := HA9.out.fit
          obtain ⟨hfd, hfh⟩ := hfin
          have s0 := cell_of_row _ _ 0 _ _ _ hfh
          have s1 := cell_of_row _ _ 1 _ _ _ hfh
          have s2 := cell_of_row _ _ 2 _ _ _ hfh
          have s3 := cell_of_row _ _ 3 _ _ _ hfh
          simp only [actC, actW] at s0 s1 s2 s3
          clear hfh HA9
          go_wp2
          refine bodyPost_ret (v := actV ⟨1 + (x : Int), nm, ⟨#[]⟩, ⟨#[120]⟩⟩) ?_ rfl ⟨_, hft, rfl, hfd⟩
          simp [results, Try.results37, go_sem, s0, s1, s2, s3, actV]
        · have HA9 := hideIt ((HSet.out _ _ _ HA7.out).2.2.1 ⟨#[120]⟩ (by decide))
          obtain ⟨⟨bc0, bc1, bc2, bc3⟩, ⟨bf0, bf1, bf2, bf3⟩, ⟨br0, br1, br2, br3⟩, ⟨bg0, bg1, bg2, bg3⟩⟩ := HA7.out.all
          clear HA7
          obtain ⟨⟨c0, c1, c2, c3⟩, ⟨f0, f1, f2, f3⟩, ⟨r0, r1, r2, r3⟩, ⟨g0, g1, g2, g3⟩⟩ := HA9.out.all
          have hfin := AcAt.done HL.out HA9.out
          have hft := HA9.out.fit
          obtain ⟨hfd, hfh⟩ := hfin
          have s0 := cell_of_row _ _ 0 _ _ _ hfh
          have s1 := cell_of_row _ _ 1 _ _ _ hfh
          have s2 := cell_of_row _ _ 2 _ _ _ hfh
          have s3 := cell_of_row _ _ 3 _ _ _ hfh
          simp only [actC, actW] at s0 s1 s2 s3
          clear hfh HA9
          go_wp2
          refine bodyPost_ret (v := actV ⟨1 + (x : Int), nm, ⟨#[120]⟩, ⟨#[]⟩⟩) ?_ rfl ⟨_, hft, rfl, hfd⟩
          simp [results, Try.results37, go_sem, s0, s1, s2, s3, actV]
end Go.Proofs.Ythffflpclmpamaa
namespace Go.Proofs.Ythffflpclmpamaa.Figs

/-- the figure of a number from 0 to 15, as a number -/
def figI (x : Int) : Int := if x < 10 then 48 + x else 87 + x

theorem figI_bounds (x : Int) (h0 : 0 ≤ x) (h1 : x < 16) : 48 ≤ figI x ∧ figI x ≤ 102 := by
  unfold figI; split <;> omega

def fig (n : Nat) : UInt8 := UInt8.ofNat (figI n).toNat

theorem fig_toNat (n : Nat) (h : n < 16) : ((fig n).toNat : Int) = figI n := by
  have := figI_bounds n (by omega) (by omega)
  unfold fig
  simp
  omega

def hexOf (l : List UInt8) : List UInt8 := l.flatMap fun c => [fig (c.toNat / 16), fig (c.toNat % 16)]

theorem hexOf_length (l : List UInt8) : (hexOf l).length = 2 * l.length := by
  induction l with
  | nil => rfl
  | cons c l ih => simp only [hexOf, List.flatMap_cons, List.length_append, List.length_cons] at ih ⊢; simp only [List.length_nil]; omega

theorem hexOf_snoc (l : List UInt8) (c : UInt8) : hexOf (l ++ [c]) = hexOf l ++ [fig (c.toNat / 16), fig (c.toNat % 16)] := by
  simp [hexOf]

end Go.Proofs.Ythffflpclmpamaa.Figs
