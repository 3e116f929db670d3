/- A graph copied, changed; the program's Model. Draws of any edge of a graph, and of any question. Any question drawn. Any graph drawn. The specification's AddEdge. An edge that comes and goes. (sameEdges; the rest is no walk.). -/
import Derived.Test.YtobcihdjennieaaKMd16
import Derived.Deep.DeepCutAuto
import Derived.Test.YtobcihdjennieaaKArnd
import Derived.Test.YtobcihdjennieaaKLawSt5
namespace Go.Proofs.Ytobcihdjennieaa
open Go.RowKit

theorem Sl.nil {a : Option Addr} {n c : Nat} (h : Sl a n c) : a = none → n = 0 ∧ c = 0 := fun e => by
  rcases h.2.2 with h | ⟨b, off, h⟩
  · exact h.2
  · rw [e] at h; simp at h
set_option maxRecDepth 100000 in
set_option maxHeartbeats 4000000 in
theorem gCopy_any (N : Int) (es : List EdgeV) (n : Nat) (a : Option Addr) (c : Nat) (hsl : Sl a n c) (hn : n ≤ 1048576) (w : World) (h : Es w w.heap.size a n es) :
    Calls Try.prog 29 #[.agg #[.int .i64 N, .slice a n c]] w fun e w' => ∃ a' m' c', e = .returned (.agg #[.int .i64 N, .slice a' m' c']) ∧ w'.ownsRow w.heap.size 59 2 (.slice a' m' c') m' (ecells es) ∧ Below w.heap.size w w' := by
  have S1 := InC.start w N a n c
  obtain ⟨w2, hw2⟩ : ∃ w2, w2 = c2 w N a n c := ⟨_, rfl⟩
  have z2 : w2.heap.size = w.heap.size + 2 := by rw [hw2, c2_size]
  rw [← hw2] at S1
  have HK : Hid (∀ u, InC w N a n c u → u.cell? ⟨w.heap.size, 0, none⟩ = some (.int .i64 N) ∧ u.cell? ⟨w.heap.size, 1, none⟩ = some (.slice a n c)) := fun u hu => hu.cells
  have S1d := S1.drew
  have T2b : Below w2.heap.size w2 (w2.alloc (.cells #[.slice a n c] 24)).drew := ((Below.refl _ _).alloc (Nat.le_refl _) _).drew
  have T2 := S1.up T2b
  have HCc : Hid (Calls Try.prog 55 #[.slice (some ⟨w2.heap.size, 0, none⟩) 1 1] (w2.alloc (.cells #[.slice a n c] 24)).drew fun e v => ∃ a' m' c', e = .returned (.slice a' m' c') ∧ Hid (v.ownsRow (w.heap.size + 2) 59 2 (.slice a' m' c') m' (ecells es)) ∧ InC w N a n c v) := by
    have hE2 := (h.up S1.below).up T2b
    refine (Concat_any [⟨a, n, c, es⟩] w2.heap.size 1 rfl (by omega) _ ⟨by simp, fun j q hq => ?_⟩ (by simp [pLen]; omega)).mono fun e v ⟨a', m', c', he, ho, hb⟩ => ⟨a', m', c', he, ?_, T2.up hb⟩
    · rcases j with _ | j
      · simp at hq; subst hq
        exact ⟨by simp [go_sem], hE2, hsl.nil⟩
      · simp at hq
    · have hp : pAll [⟨a, n, c, es⟩] = es := by simp [pAll]
      rw [hp] at ho
      exact own_mono ho (by simp; omega)
  clear h hsl
  go_enter Try.func29, Try.ntmps29
  go_upto_region 1 with fail
  rw [show (w.alloc (.cells #[.int .i64 N, .slice a n c] 26)).alloc (.cells #[.int .i64 0, .slice none 0 0] 26) = w2 from hw2.symm]
  clear hw2 z2
  go_region_held3 (fun u => u.cell? ⟨w.heap.size, 0, none⟩ = some (.int .i64 N) ∧ u.cell? ⟨w.heap.size, 1, none⟩ = some (.slice a n c))
    (first | exact S8.cellsSet _ _ | exact HK.out _ S8 | exact HK.out _ T2 | exact HK.out _ S1d)
    ((go_at_call 55; refine HCc.out.mono ?_; rintro e w8 ⟨a', m', c', rfl, hown8, S8⟩; obtain ⟨⟨r0, r1⟩, r2, r3⟩ := S8.out; have s8 := S8.size))
  all_goals
    go_wp2
    exact bodyPost_ret (v := .agg #[.int .i64 N, .slice a' m' c']) (by simp [results, Try.results29, go_sem, r0, r1]) rfl ⟨a', m', c', rfl, own_mono (own_setLow (own_setLow hown8.out _ 0 _ (by omega)) _ 1 _ (by omega)) (by omega), (S8.below.setCell (by show _ ≤ w.heap.size + 1; omega) _).setCell (by show _ ≤ w.heap.size + 1; omega) _⟩


set_option maxRecDepth 100000 in
set_option maxHeartbeats 4000000 in
theorem changed_add (N : Int) (es : List EdgeV) (f : EdgeV) (n : Nat) (a : Option Addr) (c : Nat) (hsl : Sl a n c) (hn : n ≤ 1048576) (w : World) (h : Es w w.heap.size a n es) :
    Calls Try.prog 30 #[.agg #[.int .i64 N, .slice a n c], .func (.func 31) #[] #[], .agg #[.int .i64 f.1, .int .i64 f.2]] w fun e w' => MAns w N (chR es (addE N es f)) e w' := by
  have HK : Hid (∀ u, In3 w N a n c f u → (u.cell? ⟨w.heap.size, 0, none⟩ = some (.int .i64 N) ∧ u.cell? ⟨w.heap.size, 1, none⟩ = some (.slice a n c)) ∧ (u.cell? ⟨w.heap.size + 1, 0, none⟩ = some (.int .i64 f.1) ∧ u.cell? ⟨w.heap.size + 1, 1, none⟩ = some (.int .i64 f.2))) := fun u hu => hu.cells
  have HA : Hid (∀ u, In3 w N a n c f u → Calls Try.prog 31 #[.agg #[.int .i64 N, .slice a n c], .agg #[.int .i64 f.1, .int .i64 f.2]] u fun e v => ∃ a' m' c', e = .returned (.tuple #[.agg #[.int .i64 (if (addE N es f).isSome then N else 0), .slice a' m' c'], .bool (addE N es f).isSome]) ∧ Hid (v.ownsRow (w.heap.size + 3) 59 2 (.slice a' m' c') m' (ecells ((addE N es f).getD []))) ∧ In3 w N a n c f v) := fun u hu =>
    (iAddEdge_any N es f n a c hsl hn u (h.up hu.below)).mono fun _ _ ⟨a', m', c', he, ho, hb⟩ => ⟨a', m', c', he, own_mono ho hu.size, hu.up hb⟩
  have HCp : Hid (∀ u, In3 w N a n c f u → Calls Try.prog 29 #[.agg #[.int .i64 N, .slice a n c]] u fun e v => ∃ a' m' c', e = .returned (.agg #[.int .i64 N, .slice a' m' c']) ∧ Hid (v.ownsRow (w.heap.size + 3) 59 2 (.slice a' m' c') m' (ecells es)) ∧ In3 w N a n c f v) := fun u hu =>
    (gCopy_any N es n a c hsl hn u (h.up hu.below)).mono fun _ _ ⟨a', m', c', he, ho, hb⟩ => ⟨a', m', c', he, own_mono ho hu.size, hu.up hb⟩
  have S1 := In3.start w N a n c f
  clear h hsl
  cases hp : addE N es f with
  | none =>
    simp only [hp, Option.isSome_none, Option.getD_none, Bool.false_eq_true, if_false] at HA
    clear hp
    go_enter Try.func30, Try.ntmps30
    go_wp2_with (go_at_call 31; refine (HA.out _ S1).mono ?_; rintro e w4 ⟨a1, m1, c1, rfl, _, S4⟩; refine Hid.out ?_)
    refine (show ∀ {p : Prop}, p → Hid p from fun h => h) ?_
    have S5 := S4.up ((Below.refl _ _).alloc (Nat.le_refl _) (.cells #[.int .i64 0, .slice a1 m1 c1] 26))
    obtain ⟨w5, hw5⟩ : ∃ w5, w5 = w4.alloc (.cells #[.int .i64 0, .slice a1 m1 c1] 26) := ⟨_, rfl⟩
    rw [← hw5] at S5
    go_upto_region 4 with fail
    rw [← hw5]
    clear hw5 S4
    obtain ⟨⟨k0, k1⟩, k2, k3⟩ := HK.out _ S5
    go_wp2_with (go_at_call 29; refine (HCp.out _ S5).mono ?_; rintro e w6 ⟨a', m', c', rfl, ho6, S6⟩; refine Hid.out ?_)
    refine (show ∀ {p : Prop}, p → Hid p from fun h => h) ?_
    obtain ⟨⟨r0, r1⟩, r2, r3⟩ := S6.out
    have s6 := S6.size
    clear k0 k1 k2 k3
    go_wp2
    exact bodyPost_ret (v := .tuple #[.agg #[.int .i64 N, .slice a' m' c'], .int .i64 2]) (by simp [results, Try.results30, go_sem, r0, r1]) rfl ⟨a', m', c', rfl, own_mono (own_setLow (own_setLow ho6.out _ 0 _ (by omega)) _ 1 _ (by omega)) (by omega), (S6.below.setCell (by show _ ≤ w.heap.size + 1 + 1; omega) _).setCell (by show _ ≤ w.heap.size + 1 + 1; omega) _⟩
  | some gs =>
    simp only [hp, Option.isSome_some, Option.getD_some, if_true] at HA
    clear hp HCp
    go_enter Try.func30, Try.ntmps30
    go_wp2_with (go_at_call 31; refine (HA.out _ S1).mono ?_; rintro e w4 ⟨a1, m1, c1, rfl, ho4, S4⟩; refine Hid.out ?_)
    refine (show ∀ {p : Prop}, p → Hid p from fun h => h) ?_
    have S5 := S4.up ((Below.refl _ _).alloc (Nat.le_refl _) (.cells #[.int .i64 N, .slice a1 m1 c1] 26))
    have ho5 := hideIt (World.ownsRow.alloc ho4.out (.cells #[.int .i64 N, .slice a1 m1 c1] 26))
    have x0 : (w4.alloc (.cells #[.int .i64 N, .slice a1 m1 c1] 26)).cell? ⟨w4.heap.size, 0, none⟩ = some (.int .i64 N) := by simp [go_sem]
    have x1 : (w4.alloc (.cells #[.int .i64 N, .slice a1 m1 c1] 26)).cell? ⟨w4.heap.size, 1, none⟩ = some (.slice a1 m1 c1) := by simp [go_sem]
    obtain ⟨w5, hw5⟩ : ∃ w5, w5 = w4.alloc (.cells #[.int .i64 N, .slice a1 m1 c1] 26) := ⟨_, rfl⟩
    rw [← hw5] at S5 ho5 x0 x1
    go_upto_region 3 with fail
    rw [← hw5]
    clear hw5 S4 ho4
    obtain ⟨⟨r0, r1⟩, r2, r3⟩ := S5.out
    have s5 := S5.size
    generalize w4.heap.size = B at *
    go_wp2
    exact bodyPost_ret (v := .tuple #[.agg #[.int .i64 N, .slice a1 m1 c1], .int .i64 1]) (by simp [results, Try.results30, go_sem, r0, r1]) rfl ⟨a1, m1, c1, rfl, own_mono (own_setLow (own_setLow ho5.out _ 0 _ (by omega)) _ 1 _ (by omega)) (by omega), (S5.below.setCell (by show _ ≤ w.heap.size + 1 + 1; omega) _).setCell (by show _ ≤ w.heap.size + 1 + 1; omega) _⟩


set_option maxRecDepth 100000 in
set_option maxHeartbeats 4000000 in
theorem changed_take (N : Int) (es : List EdgeV) (f : EdgeV) (n : Nat) (a : Option Addr) (c : Nat) (hsl : Sl a n c) (hn : n ≤ 1048576) (w : World) (h : Es w w.heap.size a n es) :
    Calls Try.prog 30 #[.agg #[.int .i64 N, .slice a n c], .func (.func 33) #[] #[], .agg #[.int .i64 f.1, .int .i64 f.2]] w fun e w' => MAns w N (chR es (takE N es f)) e w' := by
  have HK : Hid (∀ u, In3 w N a n c f u → (u.cell? ⟨w.heap.size, 0, none⟩ = some (.int .i64 N) ∧ u.cell? ⟨w.heap.size, 1, none⟩ = some (.slice a n c)) ∧ (u.cell? ⟨w.heap.size + 1, 0, none⟩ = some (.int .i64 f.1) ∧ u.cell? ⟨w.heap.size + 1, 1, none⟩ = some (.int .i64 f.2))) := fun u hu => hu.cells
  have HA : Hid (∀ u, In3 w N a n c f u → Calls Try.prog 33 #[.agg #[.int .i64 N, .slice a n c], .agg #[.int .i64 f.1, .int .i64 f.2]] u fun e v => ∃ a' m' c', e = .returned (.tuple #[.agg #[.int .i64 (if (takE N es f).isSome then N else 0), .slice a' m' c'], .bool (takE N es f).isSome]) ∧ Hid (v.ownsRow (w.heap.size + 3) 59 2 (.slice a' m' c') m' (ecells ((takE N es f).getD []))) ∧ In3 w N a n c f v) := fun u hu =>
    (iTakeEdge_any N es f n a c hsl hn u (h.up hu.below)).mono fun _ _ ⟨a', m', c', he, ho, hb⟩ => ⟨a', m', c', he, own_mono ho hu.size, hu.up hb⟩
  have HCp : Hid (∀ u, In3 w N a n c f u → Calls Try.prog 29 #[.agg #[.int .i64 N, .slice a n c]] u fun e v => ∃ a' m' c', e = .returned (.agg #[.int .i64 N, .slice a' m' c']) ∧ Hid (v.ownsRow (w.heap.size + 3) 59 2 (.slice a' m' c') m' (ecells es)) ∧ In3 w N a n c f v) := fun u hu =>
    (gCopy_any N es n a c hsl hn u (h.up hu.below)).mono fun _ _ ⟨a', m', c', he, ho, hb⟩ => ⟨a', m', c', he, own_mono ho hu.size, hu.up hb⟩
  have S1 := In3.start w N a n c f
  clear h hsl
  cases hp : takE N es f with
  | none =>
    simp only [hp, Option.isSome_none, Option.getD_none, Bool.false_eq_true, if_false] at HA
    clear hp
    go_enter Try.func30, Try.ntmps30
    go_wp2_with (go_at_call 33; refine (HA.out _ S1).mono ?_; rintro e w4 ⟨a1, m1, c1, rfl, _, S4⟩; refine Hid.out ?_)
    refine (show ∀ {p : Prop}, p → Hid p from fun h => h) ?_
    have S5 := S4.up ((Below.refl _ _).alloc (Nat.le_refl _) (.cells #[.int .i64 0, .slice a1 m1 c1] 26))
    obtain ⟨w5, hw5⟩ : ∃ w5, w5 = w4.alloc (.cells #[.int .i64 0, .slice a1 m1 c1] 26) := ⟨_, rfl⟩
    rw [← hw5] at S5
    go_upto_region 4 with fail
    rw [← hw5]
    clear hw5 S4
    obtain ⟨⟨k0, k1⟩, k2, k3⟩ := HK.out _ S5
    go_wp2_with (go_at_call 29; refine (HCp.out _ S5).mono ?_; rintro e w6 ⟨a', m', c', rfl, ho6, S6⟩; refine Hid.out ?_)
    refine (show ∀ {p : Prop}, p → Hid p from fun h => h) ?_
    obtain ⟨⟨r0, r1⟩, r2, r3⟩ := S6.out
    have s6 := S6.size
    clear k0 k1 k2 k3
    go_wp2
    exact bodyPost_ret (v := .tuple #[.agg #[.int .i64 N, .slice a' m' c'], .int .i64 2]) (by simp [results, Try.results30, go_sem, r0, r1]) rfl ⟨a', m', c', rfl, own_mono (own_setLow (own_setLow ho6.out _ 0 _ (by omega)) _ 1 _ (by omega)) (by omega), (S6.below.setCell (by show _ ≤ w.heap.size + 1 + 1; omega) _).setCell (by show _ ≤ w.heap.size + 1 + 1; omega) _⟩
  | some gs =>
    simp only [hp, Option.isSome_some, Option.getD_some, if_true] at HA
    clear hp HCp
    go_enter Try.func30, Try.ntmps30
    go_wp2_with (go_at_call 33; refine (HA.out _ S1).mono ?_; rintro e w4 ⟨a1, m1, c1, rfl, ho4, S4⟩; refine Hid.out ?_)
    refine (show ∀ {p : Prop}, p → Hid p from fun h => h) ?_
    have S5 := S4.up ((Below.refl _ _).alloc (Nat.le_refl _) (.cells #[.int .i64 N, .slice a1 m1 c1] 26))
    have ho5 := hideIt (World.ownsRow.alloc ho4.out (.cells #[.int .i64 N, .slice a1 m1 c1] 26))
    have x0 : (w4.alloc (.cells #[.int .i64 N, .slice a1 m1 c1] 26)).cell? ⟨w4.heap.size, 0, none⟩ = some (.int .i64 N) := by simp [go_sem]
    have x1 : (w4.alloc (.cells #[.int .i64 N, .slice a1 m1 c1] 26)).cell? ⟨w4.heap.size, 1, none⟩ = some (.slice a1 m1 c1) := by simp [go_sem]
    obtain ⟨w5, hw5⟩ : ∃ w5, w5 = w4.alloc (.cells #[.int .i64 N, .slice a1 m1 c1] 26) := ⟨_, rfl⟩
    rw [← hw5] at S5 ho5 x0 x1
    go_upto_region 3 with fail
    rw [← hw5]
    clear hw5 S4 ho4
    obtain ⟨⟨r0, r1⟩, r2, r3⟩ := S5.out
    have s5 := S5.size
    generalize w4.heap.size = B at *
    go_wp2
    exact bodyPost_ret (v := .tuple #[.agg #[.int .i64 N, .slice a1 m1 c1], .int .i64 1]) (by simp [results, Try.results30, go_sem, r0, r1]) rfl ⟨a1, m1, c1, rfl, own_mono (own_setLow (own_setLow ho5.out _ 0 _ (by omega)) _ 1 _ (by omega)) (by omega), (S5.below.setCell (by show _ ≤ w.heap.size + 1 + 1; omega) _).setCell (by show _ ≤ w.heap.size + 1 + 1; omega) _⟩


theorem mans_yes {w u : World} {N : Int} {a : Option Addr} {n c : Nat} {xi xo xa xb : Int} (h : InM w N a n c xi xo xa xb u) {r : List EdgeV × Int} {gs : List EdgeV} {s : Int} (ho : r = (gs, s)) {B : Nat} {a' : Option Addr} {m' c' : Nat}
    (hB : w.heap.size + 3 ≤ B) (hown : u.ownsRow B 59 2 (.slice a' m' c') m' (ecells gs)) :
    MAns w N r (.returned (.tuple #[.agg #[.int .i64 N, .slice a' m' c'], .int .i64 s])) ((u.setCell ⟨w.heap.size + 1 + 1, 0, none⟩ (.int .i64 N)).setCell ⟨w.heap.size + 1 + 1, 1, none⟩ (.slice a' m' c')) := by
  subst ho
  exact ⟨a', m', c', rfl, own_mono (own_setLow (own_setLow hown _ 0 _ (by omega)) _ 1 _ (by omega)) (by omega), (h.below.setCell (by show _ ≤ w.heap.size + 1 + 1; omega) _).setCell (by show _ ≤ w.heap.size + 1 + 1; omega) _⟩


set_option maxRecDepth 100000 in
set_option maxHeartbeats 4000000 in
theorem iModel_any (N : Int) (es : List EdgeV) (xi xo xa xb : Int) (n : Nat) (a : Option Addr) (c : Nat) (hsl : Sl a n c) (hn : n ≤ 1048576) (w : World) (h : Es w w.heap.size a n es) :
    Calls Try.prog 8 #[.agg #[.int .i64 N, .slice a n c], .agg #[.int .i64 xi, .int .i64 xo, .int .i64 xa, .int .i64 xb]] w fun e w' => MAns w N (mdR N es xo xa xb) e w' := by
  have HE : Hid (∀ u, InM w N a n c xi xo xa xb u → Es u u.heap.size a n es) := fun u hu => h.up hu.below
  have HK : Hid (∀ u, InM w N a n c xi xo xa xb u → _) := fun u (hu : InM w N a n c xi xo xa xb u) => hu.cells
  have HCT : Hid (∀ u, InM w N a n c xi xo xa xb u → Calls Try.prog 28 #[.agg #[.int .i64 N, .slice a n c], .agg #[.int .i64 xi, .int .i64 xo, .int .i64 xa, .int .i64 xb]] u fun e v => e = .returned (.bool (telB N xo xa xb)) ∧ InM w N a n c xi xo xa xb v) := fun u hu => (canTell_any N a n c xi xo xa xb u).mono fun _ _ ⟨he, hb⟩ => ⟨he, hu.up hb⟩
  have HCp : Hid (∀ u, InM w N a n c xi xo xa xb u → Calls Try.prog 29 #[.agg #[.int .i64 N, .slice a n c]] u fun e v => ∃ a' m' c', e = .returned (.agg #[.int .i64 N, .slice a' m' c']) ∧ Hid (v.ownsRow (w.heap.size + 3) 59 2 (.slice a' m' c') m' (ecells es)) ∧ InM w N a n c xi xo xa xb v) := fun u hu =>
    (gCopy_any N es n a c hsl hn u (HE.out u hu)).mono fun _ _ ⟨a', m', c', he, ho, hb⟩ => ⟨a', m', c', he, own_mono ho hu.size, hu.up hb⟩
  have HAE : Hid (∀ u, InM w N a n c xi xo xa xb u → Calls Try.prog 32 #[.agg #[.int .i64 xi, .int .i64 xo, .int .i64 xa, .int .i64 xb]] u fun e v => e = .returned (.agg #[.int .i64 (edA xa xb).1, .int .i64 (edA xa xb).2]) ∧ InM w N a n c xi xo xa xb v) := fun u hu => (askEdge_any xi xo xa xb u).mono fun _ _ ⟨he, hb⟩ => ⟨he, hu.up hb⟩
  have HTg : Hid (∀ u, InM w N a n c xi xo xa xb u → Calls Try.prog 34 #[.agg #[.int .i64 N, .slice a n c], .int .i64 xa, .int .i64 xb] u fun e v => e = .returned (.bool (togB (labE N es) xa xb)) ∧ InM w N a n c xi xo xa xb v) := fun u hu => (iTogether_any N es xa xb n a c hn u (HE.out u hu)).mono fun _ _ ⟨he, hb⟩ => ⟨he, hu.up hb⟩
  have S1 := InM.start w N a n c xi xo xa xb
  have HCadd : Hid (∀ u, InM w N a n c xi xo xa xb u → Calls Try.prog 30 #[.agg #[.int .i64 N, .slice a n c], .func (.func 31) #[] #[], .agg #[.int .i64 (edA xa xb).1, .int .i64 (edA xa xb).2]] u fun e v => ∃ a' m' c', e = .returned (.tuple #[.agg #[.int .i64 N, .slice a' m' c'], .int .i64 (chR es (addE N es (edA xa xb))).2]) ∧ Hid (v.ownsRow (w.heap.size + 3) 59 2 (.slice a' m' c') m' (ecells (chR es (addE N es (edA xa xb))).1)) ∧ InM w N a n c xi xo xa xb v) := fun u hu =>
    (changed_add N es (edA xa xb) n a c hsl hn u (HE.out u hu)).mono fun _ _ ⟨a', m', c', he, ho, hb⟩ => ⟨a', m', c', he, own_mono ho hu.size, hu.up hb⟩
  have HCtake : Hid (∀ u, InM w N a n c xi xo xa xb u → Calls Try.prog 30 #[.agg #[.int .i64 N, .slice a n c], .func (.func 33) #[] #[], .agg #[.int .i64 (edA xa xb).1, .int .i64 (edA xa xb).2]] u fun e v => ∃ a' m' c', e = .returned (.tuple #[.agg #[.int .i64 N, .slice a' m' c'], .int .i64 (chR es (takE N es (edA xa xb))).2]) ∧ Hid (v.ownsRow (w.heap.size + 3) 59 2 (.slice a' m' c') m' (ecells (chR es (takE N es (edA xa xb))).1)) ∧ InM w N a n c xi xo xa xb v) := fun u hu =>
    (changed_take N es (edA xa xb) n a c hsl hn u (HE.out u hu)).mono fun _ _ ⟨a', m', c', he, ho, hb⟩ => ⟨a', m', c', he, own_mono ho hu.size, hu.up hb⟩
  clear h hsl HE
  cases hT : telB N xo xa xb with
  | false =>
    rw [hT] at HCT
    have HO := hideIt (show mdR N es xo xa xb = (es, 3) by unfold mdR; simp [hT])
    clear hT HAE HTg HCadd HCtake
    go_enter Try.func8, Try.ntmps8
    go_wp2_with (go_at_call 28; refine (HCT.out _ S1).mono ?_; rintro e u2 ⟨rfl, S2⟩; refine Hid.out ?_)
    refine (show ∀ {p : Prop}, p → Hid p from fun h => h) ?_
    obtain ⟨k0, k1, k2, k3, k4, k5⟩ := HK.out _ S2
    go_wp2_with (go_at_call 29; refine (HCp.out _ S2).mono ?_; rintro e u9 ⟨a', m', c', rfl, ho9, S9⟩; refine Hid.out ?_)
    refine (show ∀ {p : Prop}, p → Hid p from fun h => h) ?_
    clear k0 k1 k2 k3 k4 k5
    obtain ⟨⟨r0, r1⟩, r2, r3⟩ := S9.out
    have sz := S9.size
    go_wp2
    exact bodyPost_ret (v := .tuple #[.agg #[.int .i64 N, .slice a' m' c'], .int .i64 3]) (by simp [results, Try.results8, go_sem, r0, r1]) rfl (mans_yes S9 HO.out (Nat.le_refl _) ho9.out)
  | true =>
    rw [hT] at HCT
    by_cases h1 : xo = 1
    · have e1 : (xo == 1) = true := by simpa using h1
      have HO := hideIt (show mdR N es xo xa xb = ((chR es (addE N es (edA xa xb))).1, (chR es (addE N es (edA xa xb))).2) by unfold mdR; rw [hT]; simp [h1])
      clear hT HTg HCp HCtake h1
      generalize chR es (addE N es (edA xa xb)) = r at *
      generalize edA xa xb = f at *
      go_enter Try.func8, Try.ntmps8
      go_wp2_with (go_at_call 28; refine (HCT.out _ S1).mono ?_; rintro e u2 ⟨rfl, S2⟩; refine Hid.out ?_)
      refine (show ∀ {p : Prop}, p → Hid p from fun h => h) ?_
      obtain ⟨k0, k1, k2, k3, k4, k5⟩ := HK.out _ S2
      have S2d := S2.drew
      clear k0 k1 k2 k3 k4 k5
      obtain ⟨k0, k1, k2, k3, k4, k5⟩ := HK.out _ S2
      go_upto_region 4 with fail
      go_region_held3 (fun u => u.cell? ⟨w.heap.size, 0, none⟩ = some (.int .i64 N) ∧ u.cell? ⟨w.heap.size, 1, none⟩ = some (.slice a n c) ∧ u.cell? ⟨w.heap.size + 1, 0, none⟩ = some (.int .i64 xi) ∧ u.cell? ⟨w.heap.size + 1, 1, none⟩ = some (.int .i64 xo) ∧ u.cell? ⟨w.heap.size + 1, 2, none⟩ = some (.int .i64 xa) ∧ u.cell? ⟨w.heap.size + 1, 3, none⟩ = some (.int .i64 xb))
        (first | exact S8.cellsSet _ _ | exact HK.out _ S8 | exact HK.out _ S7 | exact HK.out _ S2d)
        (first
          | (go_at_call 32; refine (HAE.out _ S2d).mono ?_; rintro e u7 ⟨rfl, S7⟩)
          | (go_at_call 30; refine (HCadd.out _ S7).mono ?_; rintro e u8 ⟨a', m', c', rfl, ho8, S8⟩; obtain ⟨⟨r0, r1⟩, r2, r3⟩ := S8.out; have s8 := S8.size))
      all_goals
        go_wp2
        exact bodyPost_ret (v := .tuple #[.agg #[.int .i64 N, .slice a' m' c'], .int .i64 r.2]) (by simp [results, Try.results8, go_sem, r0, r1]) rfl (mans_yes S8 HO.out (Nat.le_refl _) ho8.out)
    · have e1 : (xo == 1) = false := by simpa using h1
      by_cases h2 : xo = 2
      · have e2 : (xo == 2) = true := by simpa using h2
        have HO := hideIt (show mdR N es xo xa xb = ((chR es (takE N es (edA xa xb))).1, (chR es (takE N es (edA xa xb))).2) by unfold mdR; rw [hT]; simp [h2])
        clear hT HTg HCp HCadd h2 h1
        generalize chR es (takE N es (edA xa xb)) = r at *
        generalize edA xa xb = f at *
        go_enter Try.func8, Try.ntmps8
        go_wp2_with (go_at_call 28; refine (HCT.out _ S1).mono ?_; rintro e u2 ⟨rfl, S2⟩; refine Hid.out ?_)
        refine (show ∀ {p : Prop}, p → Hid p from fun h => h) ?_
        obtain ⟨k0, k1, k2, k3, k4, k5⟩ := HK.out _ S2
        have S2d := S2.drew
        clear k0 k1 k2 k3 k4 k5
        obtain ⟨k0, k1, k2, k3, k4, k5⟩ := HK.out _ S2
        go_upto_region 6 with fail
        go_region_held3 (fun u => u.cell? ⟨w.heap.size, 0, none⟩ = some (.int .i64 N) ∧ u.cell? ⟨w.heap.size, 1, none⟩ = some (.slice a n c) ∧ u.cell? ⟨w.heap.size + 1, 0, none⟩ = some (.int .i64 xi) ∧ u.cell? ⟨w.heap.size + 1, 1, none⟩ = some (.int .i64 xo) ∧ u.cell? ⟨w.heap.size + 1, 2, none⟩ = some (.int .i64 xa) ∧ u.cell? ⟨w.heap.size + 1, 3, none⟩ = some (.int .i64 xb))
          (first | exact S8.cellsSet _ _ | exact HK.out _ S8 | exact HK.out _ S7 | exact HK.out _ S2d)
          (first
            | (go_at_call 32; refine (HAE.out _ S2d).mono ?_; rintro e u7 ⟨rfl, S7⟩)
            | (go_at_call 30; refine (HCtake.out _ S7).mono ?_; rintro e u8 ⟨a', m', c', rfl, ho8, S8⟩; obtain ⟨⟨r0, r1⟩, r2, r3⟩ := S8.out; have s8 := S8.size))
        all_goals
          go_wp2
          exact bodyPost_ret (v := .tuple #[.agg #[.int .i64 N, .slice a' m' c'], .int .i64 r.2]) (by simp [results, Try.results8, go_sem, r0, r1]) rfl (mans_yes S8 HO.out (Nat.le_refl _) ho8.out)
      · have e2 : (xo == 2) = false := by simpa using h2
        clear HCadd HCtake HAE
        by_cases h3 : xo = 3
        · have e3 : (xo == 3) = true := by simpa using h3
          cases hg : togB (labE N es) xa xb with
          | false =>
            rw [hg] at HTg
            have HO := hideIt (show mdR N es xo xa xb = (es, 2) by unfold mdR; rw [hT]; simp [hg, h3])
            clear hT hg h1 h2 h3
            go_enter Try.func8, Try.ntmps8
            go_wp2_with (go_at_call 28; refine (HCT.out _ S1).mono ?_; rintro e u2 ⟨rfl, S2⟩; refine Hid.out ?_)
            refine (show ∀ {p : Prop}, p → Hid p from fun h => h) ?_
            obtain ⟨k0, k1, k2, k3, k4, k5⟩ := HK.out _ S2
            go_wp2_with (go_at_call 34; refine (HTg.out _ S2).mono ?_; rintro e u3 ⟨rfl, S3⟩; refine Hid.out ?_)
            refine (show ∀ {p : Prop}, p → Hid p from fun h => h) ?_
            clear k0 k1 k2 k3 k4 k5
            obtain ⟨k0, k1, k2, k3, k4, k5⟩ := HK.out _ S3
            go_wp2_with (go_at_call 29; refine (HCp.out _ S3).mono ?_; rintro e u9 ⟨a', m', c', rfl, ho9, S9⟩; refine Hid.out ?_)
            refine (show ∀ {p : Prop}, p → Hid p from fun h => h) ?_
            clear k0 k1 k2 k3 k4 k5
            obtain ⟨⟨r0, r1⟩, r2, r3⟩ := S9.out
            have sz := S9.size
            go_wp2
            exact bodyPost_ret (v := .tuple #[.agg #[.int .i64 N, .slice a' m' c'], .int .i64 2]) (by simp [results, Try.results8, go_sem, r0, r1]) rfl (mans_yes S9 HO.out (Nat.le_refl _) ho9.out)
          | true =>
            rw [hg] at HTg
            have HO := hideIt (show mdR N es xo xa xb = (es, 1) by unfold mdR; rw [hT]; simp [hg, h3])
            clear hT hg h1 h2 h3
            go_enter Try.func8, Try.ntmps8
            go_wp2_with (go_at_call 28; refine (HCT.out _ S1).mono ?_; rintro e u2 ⟨rfl, S2⟩; refine Hid.out ?_)
            refine (show ∀ {p : Prop}, p → Hid p from fun h => h) ?_
            obtain ⟨k0, k1, k2, k3, k4, k5⟩ := HK.out _ S2
            go_wp2_with (go_at_call 34; refine (HTg.out _ S2).mono ?_; rintro e u3 ⟨rfl, S3⟩; refine Hid.out ?_)
            refine (show ∀ {p : Prop}, p → Hid p from fun h => h) ?_
            clear k0 k1 k2 k3 k4 k5
            obtain ⟨k0, k1, k2, k3, k4, k5⟩ := HK.out _ S3
            go_wp2_with (go_at_call 29; refine (HCp.out _ S3).mono ?_; rintro e u9 ⟨a', m', c', rfl, ho9, S9⟩; refine Hid.out ?_)
            refine (show ∀ {p : Prop}, p → Hid p from fun h => h) ?_
            clear k0 k1 k2 k3 k4 k5
            obtain ⟨⟨r0, r1⟩, r2, r3⟩ := S9.out
            have sz := S9.size
            go_wp2
            exact bodyPost_ret (v := .tuple #[.agg #[.int .i64 N, .slice a' m' c'], .int .i64 1]) (by simp [results, Try.results8, go_sem, r0, r1]) rfl (mans_yes S9 HO.out (Nat.le_refl _) ho9.out)
        · have e3 : (xo == 3) = false := by simpa using h3
          have HO := hideIt (show mdR N es xo xa xb = (es, 1) by unfold mdR; rw [hT]; simp [h1, h2, h3])
          clear hT h1 h2 h3
          go_enter Try.func8, Try.ntmps8
          go_wp2_with (go_at_call 28; refine (HCT.out _ S1).mono ?_; rintro e u2 ⟨rfl, S2⟩; refine Hid.out ?_)
          refine (show ∀ {p : Prop}, p → Hid p from fun h => h) ?_
          obtain ⟨k0, k1, k2, k3, k4, k5⟩ := HK.out _ S2
          go_wp2_with (go_at_call 29; refine (HCp.out _ S2).mono ?_; rintro e u9 ⟨a', m', c', rfl, ho9, S9⟩; refine Hid.out ?_)
          refine (show ∀ {p : Prop}, p → Hid p from fun h => h) ?_
          clear k0 k1 k2 k3 k4 k5
          obtain ⟨⟨r0, r1⟩, r2, r3⟩ := S9.out
          have sz := S9.size
          go_wp2
          exact bodyPost_ret (v := .tuple #[.agg #[.int .i64 N, .slice a' m' c'], .int .i64 1]) (by simp [results, Try.results8, go_sem, r0, r1]) rfl (mans_yes S9 HO.out (Nat.le_refl _) ho9.out)
end Go.Proofs.Ytobcihdjennieaa
namespace Go.Proofs.Ytobcihdjennieaa
open Go.RowKit

theorem gr_set (w : World) (G j : Nat) (u : Value) : w.grownBy (w.setCell ⟨G, j, none⟩ u) (some G) :=
  ⟨rfl, rfl, rfl, by simp [World.setCell], fun k _ hk => heap_setCell_other w ⟨G, j, none⟩ k u (fun e => hk (by simp [e]))⟩
theorem gr_trans {a b c : World} {row : Option Nat} (h : a.grownBy b row) (k : b.grownBy c row) : a.grownBy c row :=
  ⟨k.os.trans h.os, k.tape.trans h.tape, k.output.trans h.output, Nat.le_trans h.size k.size, fun i hi hr => (k.block i (Nat.lt_of_lt_of_le hi h.size) hr).trans (h.block i hi hr)⟩
theorem gr_refl (w : World) (row : Option Nat) : w.grownBy w row := ⟨rfl, rfl, rfl, Nat.le_refl _, fun _ _ _ => rfl⟩
theorem gr_drew (w : World) (row : Option Nat) : w.grownBy w.drew row := ⟨rfl, rfl, rfl, Nat.le_refl _, fun _ _ _ => rfl⟩
theorem gr_below {w w' : World} (h : Below w.heap.size w w') (row : Option Nat) : w.grownBy w' row := ⟨h.os, h.tape, h.output, h.size, fun i hi _ => h.block i hi⟩
theorem bel1 (w : World) (o : Obj) : Below w.heap.size w (w.alloc o) := (Below.refl _ _).alloc (Nat.le_refl _) _
theorem own_ne {w : World} {B T S n G : Nat} {v : Value} {xs : List Value} (h : w.ownsRow B T S v n xs) (hG : G < B) : v.ownBlock = none ∨ v.ownBlock ≠ some G := by
  right
  intro hq
  have := h.lt G hq
  omega
theorem gr_own {w wr w1 : World} {G : Nat} {row : Option Nat} (h : w.grownBy wr (some G)) (hg : wr.grownBy w1 row) (hr : ∀ q, row = some q → w.heap.size ≤ q) : w.grownBy w1 (some G) := by
  refine ⟨hg.os.trans h.os, hg.tape.trans h.tape, hg.output.trans h.output, Nat.le_trans h.size hg.size, fun i hi hn => ?_⟩
  rw [hg.block i (Nat.lt_of_lt_of_le hi h.size) (fun e => by have := hr i e.symm; omega)]
  exact h.block i hi hn

/-- since w only the cursor and new blocks have turned -/
structure DS (w u : World) (G : Nat) (a : Option Addr) (len cap : Nat) : Prop where
  cur : Cur u G a len cap
  grown : w.grownBy u (some G)

section
variable {w u v : World} {G : Nat} {a : Option Addr} {len cap : Nat}
theorem DS.start (h : Cur w G a len cap) : DS w w G a len cap := ⟨h, gr_refl _ _⟩
theorem DS.code (h : DS w u G a len cap) (hc : Code w G a len) : Code u G a len := hc.kept h.grown
theorem DS.fin (h : DS w u G a len cap) (hc : Code w G a len) : Drawn w u G a len cap := ⟨h.cur, h.code hc, h.grown⟩
theorem DS.drawn (h : DS w u G a len cap) (d : Drawn u v G a len cap) : DS w v G a len cap := ⟨d.cur, gr_trans h.grown d.grown⟩
theorem DS.up (h : DS w u G a len cap) (hb : Below u.heap.size u v) : DS w v G a len cap := ⟨h.cur.up hb, gr_trans h.grown (gr_below hb _)⟩
theorem DS.alloc (h : DS w u G a len cap) (o : Obj) : DS w (u.alloc o) G a len cap := h.up (bel1 _ _)
theorem DS.drew (h : DS w u G a len cap) : DS w u.drew G a len cap := ⟨h.cur, gr_trans h.grown (gr_drew _ _)⟩
theorem DS.row {row : Option Nat} (h : DS w u G a len cap) (hG : G < w.heap.size) (hg : u.grownBy v row) (hr : ∀ q, row = some q → w.heap.size ≤ q) : DS w v G a len cap := by
  refine ⟨?_, gr_own h.grown hg hr⟩
  obtain ⟨i, x, hi, hq⟩ := h.cur
  exact ⟨i, x, hi, by rw [hg.block G (Array.getElem?_eq_some_iff.1 hq).1 (fun e => by have := hr G e.symm; omega)]; exact hq⟩
theorem DS.set (h : DS w u G a len cap) (hG : G < w.heap.size) (b j : Nat) (x : Value) (hb : w.heap.size ≤ b) : DS w (u.setCell ⟨b, j, none⟩ x) G a len cap :=
  h.row hG (gr_set u b j x) (fun q hq => by simp at hq; omega)
theorem DS.size (h : DS w u G a len cap) : w.heap.size ≤ u.heap.size := h.grown.size
theorem blk_drawn {b : Nat} {o : Obj} (h : u.heap[b]? = some o) (d : Drawn u v G a len cap) (hb : b ≠ G) : v.heap[b]? = some o := by
  rw [d.grown.block b (Array.getElem?_eq_some_iff.1 h).1 (by simp; exact hb)]; exact h
theorem blk_up {b : Nat} {o : Obj} (h : u.heap[b]? = some o) (hb : Below u.heap.size u v) : v.heap[b]? = some o := by
  rw [hb.block b (Array.getElem?_eq_some_iff.1 h).1]; exact h
theorem blk_alloc {b : Nat} {o : Obj} (h : u.heap[b]? = some o) (p : Obj) : (u.alloc p).heap[b]? = some o := blk_up h (bel1 _ _)
theorem blk_row {b : Nat} {o : Obj} {row : Option Nat} (h : u.heap[b]? = some o) (hg : u.grownBy v row) (hb : row ≠ some b) : v.heap[b]? = some o := by
  rw [hg.block b (Array.getElem?_eq_some_iff.1 h).1 (Ne.symm hb)]; exact h
theorem own_drawn {B e s n : Nat} {x : Value} {xs : List Value} (h : u.ownsRow B e s x n xs) (d : Drawn u v G a len cap) (hG : G < B) : v.ownsRow B e s x n xs := h.kept d.grown (own_ne h hG)
end
theorem ints_new (w : World) (zs : List Int) (t : TypeId) : ∀ j, j < zs.length → ∃ z : Int, (w.alloc (.cells (zs.map (Value.int .i64)).toArray t)).cell? ⟨w.heap.size, j, none⟩ = some (.int .i64 z) := by
  intro j hj
  refine ⟨zs[j], ?_⟩
  have := heap_alloc_new w (.cells (zs.map (Value.int .i64)).toArray t)
  rw [cell_of_row _ _ j _ _ _ this]
  simp [hj]
theorem blk_dr {u : World} {b : Nat} {o : Obj} (h : u.heap[b]? = some o) : u.drew.heap[b]? = some o := h

set_option maxRecDepth 100000 in
set_option maxHeartbeats 4000000 in
theorem l05AnyEdgeG (N : Int) (es : List EdgeV) (a1 : Option Addr) (m c1 : Nat) (hm : m ≤ 1048576) (B : Nat) (w : World) (G : Nat) (a : Option Addr) (len cap : Nat) (hl : len ≤ 1048576) (hcur : Cur w G a len cap) (hcode : Code w G a len) (ho : w.ownsRow B 59 2 (.slice a1 m c1) m (ecells es)) (hGB : G < B) :
    Calls Try.prog 52 #[.pointer (some ⟨G, 0, none⟩), .agg #[.int .i64 N, .slice a1 m c1]] w fun x w' => ∃ e : EdgeV, x = .returned (.agg #[.int .i64 e.1, .int .i64 e.2]) ∧ Drawn w w' G a len cap := by
  have hGl := hcur.lt
  have hlen : es.length = m := by have := ho.1; rw [ecells_length] at this; omega
  have HO : Hid (∀ (q : Int), 0 < q → q ≤ 100 → ∀ W, DS w W G a len cap → Calls Try.prog 27 #[.pointer (some ⟨G, 0, none⟩), .int .i64 q] W fun e w' => ∃ b : Bool, e = .returned (.bool b) ∧ Drawn W w' G a len cap) := fun q h0 h1 W hW => l01Once_any q h0 (by omega) W G a len cap hl hW.cur (hW.code hcode)
  have HE : Hid (∀ W, DS w W G a len cap → Calls Try.prog 72 #[.pointer (some ⟨G, 0, none⟩), .int .i64 6] W fun x w' => ∃ e : EdgeV, Hid (eB (6 : Int) e = true) ∧ x = .returned (.agg #[.int .i64 e.1, .int .i64 e.2]) ∧ Drawn W w' G a len cap) := fun W hW => l05Edge_any 6 (by omega) (by omega) W G a len cap hl hW.cur (hW.code hcode)
  have D0 : DS w ((w.alloc (.cells #[.int .i64 N, .slice a1 m c1] 26)).alloc (.cells #[.int .i64 0, .int .i64 0] 59)) G a len cap := ((DS.start hcur).alloc _).alloc _
  have z0 : ((w.alloc (.cells #[.int .i64 N, .slice a1 m c1] 26)).alloc (.cells #[.int .i64 0, .int .i64 0] 59)).heap[w.heap.size]? = some (.cells #[.int .i64 N, .slice a1 m c1] 26 (0, 0)) := blk_alloc (heap_alloc_new w _) _
  have b0 : ((w.alloc (.cells #[.int .i64 N, .slice a1 m c1] 26)).alloc (.cells #[.int .i64 0, .int .i64 0] 59)).heap[w.heap.size + 1]? = some (.cells #[.int .i64 0, .int .i64 0] 59 (0, 0)) := by
    have := heap_alloc_new (w.alloc (.cells #[.int .i64 N, .slice a1 m c1] 26)) (.cells #[.int .i64 0, .int .i64 0] 59)
    simpa using this
  have O0 : ((w.alloc (.cells #[.int .i64 N, .slice a1 m c1] 26)).alloc (.cells #[.int .i64 0, .int .i64 0] 59)).ownsRow B 59 2 (.slice a1 m c1) m (ecells es) := (ho.alloc _).alloc _
  have hne0 : w.heap.size ≠ G := by omega
  have hne1 : w.heap.size + 1 ≠ G := by omega
  have HCode := hideIt hcode
  obtain ⟨W, hW⟩ : ∃ W, W = ((w.alloc (.cells #[.int .i64 N, .slice a1 m c1] 26)).alloc (.cells #[.int .i64 0, .int .i64 0] 59)) := ⟨_, rfl⟩
  rw [← hW] at D0 z0 b0 O0
  have HDone : Hid (∀ (W1 : World), DS w W1 G a len cap → W1.heap[w.heap.size + 1]? = some (.cells #[.int .i64 0, .int .i64 0] 59 (0, 0)) → True) := fun _ _ _ => trivial
  clear hcur hcode HDone
  go_enter Try.func52, Try.ntmps52
  go_upto_region 1 with fail
  rw [← hW]
  clear hW
  have k1 : W.cell? ⟨w.heap.size, 1, none⟩ = some (.slice a1 m c1) := by rw [cell_of_row W _ 1 _ _ _ z0]; rfl
  go_cut [12] (fun q W1 => ∃ b : Bool, q = .bool b ∧ (b = true → 0 < m) ∧ DS w W1 G a len cap ∧ W1.heap[w.heap.size]? = some (.cells #[.int .i64 N, .slice a1 m c1] 26 (0, 0)) ∧ W1.heap[w.heap.size + 1]? = some (.cells #[.int .i64 0, .int .i64 0] 59 (0, 0)) ∧ W1.ownsRow B 59 2 (.slice a1 m c1) m (ecells es))
  case first =>
    by_cases hm0 : 0 < m
    · have d0 : decide ((0 : Int) < (m : Int)) = true := decide_eq_true (by omega)
      go_wp2_with (go_at_call 27; refine (HO.out 2 (by omega) (by omega) _ D0).mono ?_; rintro e w1 ⟨b, rfl, hd1⟩; refine Hid.out ?_)
      refine (show ∀ {p : Prop}, p → Hid p from fun h => h) ?_
      have D1 := hideIt (And.intro (D0.drawn hd1) (And.intro (blk_drawn z0 hd1 hne0) (And.intro (blk_drawn b0 hd1 hne1) (own_drawn O0 hd1 hGB))))
      clear hd1 D0 z0 b0 O0 k1
      go_wp2_with fail
      go_meet
      exact ⟨b, rfl, fun _ => hm0, D1.out.1, D1.out.2.1, D1.out.2.2.1, D1.out.2.2.2⟩
    · have d0 : decide ((0 : Int) < (m : Int)) = false := decide_eq_false (by omega)
      go_wp2_with fail
      go_meet
      exact ⟨false, rfl, (fun h => absurd h (by simp)), D0, z0, b0, O0⟩
  case rest =>
    obtain ⟨b, rfl, hbm, D1, z1, b1, O1⟩ := hcut
    clear D0 z0 b0 O0 k1
    have zz := D1.size
    cases b with
    | true =>
      have hm0 : 0 < m := hbm rfl
      have HB : Hid (∀ W, DS w W G a len cap → Calls Try.prog 50 #[.pointer (some ⟨G, 0, none⟩), .int .i64 (m : Int)] W fun e w' => ∃ x : Nat, (x : Int) < (m : Int) ∧ e = .returned (.int .i64 (x : Int)) ∧ Drawn W w' G a len cap) := fun W hW => l01Below_any (m : Int) (by omega) (by omega) W G a len cap hl hW.cur (hW.code HCode.out)
      have HC : Hid (∀ u, DS w u G a len cap → u.heap[w.heap.size]? = some (.cells #[.int .i64 N, .slice a1 m c1] 26 (0, 0)) → u.cell? ⟨w.heap.size, 1, none⟩ = some (.slice a1 m c1)) := fun u _ hz => by rw [cell_of_row u _ 1 _ _ _ hz]; rfl
      have D1d := D1.drew
      have b0d := blk_dr z1
      have b1d := blk_dr b1
      have O1d := O1.drew
      have hS2 := HC.out _ D1d b0d
      go_upto_region 2 with fail
      refine wp_region_held_drew (S := (fun u => u.cell? ⟨w.heap.size, 1, none⟩ = some (.slice a1 m c1))) (by kernel_rfl) hS2 (fun hHeld => ?_)
      refine wpAnyH_take (i := 0) (v := ?_) rfl (by kernel_rfl) (by kernel_rfl) (by kernel_rfl) (fun _ _ _ h => h) (Or.inl ⟨by rfl, ?_⟩) (by assumption) ?_
      rotate_left
      · intro w hSw; (try dsimp only at hSw); go_simp; try with_reducible rfl
      try simp only [Act.put, List.getElem_toArray, List.getElem_cons_zero, List.setIfInBounds_toArray, List.set_cons_zero, List.set_cons_succ]
      refine wpAnyH_take (i := 1) (v := ?_) rfl (by kernel_rfl) (by kernel_rfl) (by kernel_rfl) (fun _ _ _ h => h) (Or.inl ⟨by rfl, ?_⟩) (by assumption) ?_
      rotate_left
      · intro w hSw; (try dsimp only at hSw); go_simp; try with_reducible rfl
      try simp only [Act.put, List.getElem_toArray, List.getElem_cons_succ, List.getElem_cons_zero, List.setIfInBounds_toArray, List.set_cons_zero, List.set_cons_succ]
      refine wpAnyH_take (i := 2) (v := ?_) rfl (by kernel_rfl) (by kernel_rfl) (by kernel_rfl) (fun _ _ _ h => h) (Or.inl ⟨by rfl, ?_⟩) (by assumption) ?_
      rotate_left
      · intro w hSw; (try dsimp only at hSw); go_simp; try with_reducible rfl
      try simp only [Act.put, List.getElem_toArray, List.getElem_cons_succ, List.getElem_cons_zero, List.setIfInBounds_toArray, List.set_cons_zero, List.set_cons_succ]
      refine wpAnyH_take (i := 3) (v := ?_) rfl (by kernel_rfl) (by kernel_rfl) (by kernel_rfl) (fun _ _ _ h => h) (Or.inl ⟨by rfl, ?_⟩) (by assumption) ?_
      rotate_left
      · intro w hSw; (try dsimp only at hSw); go_simp; try with_reducible rfl
      try simp only [Act.put, List.getElem_toArray, List.getElem_cons_succ, List.getElem_cons_zero, List.setIfInBounds_toArray, List.set_cons_zero, List.set_cons_succ]
      refine wpAnyH_take (i := 4) (v := ?_) rfl (by kernel_rfl) (by kernel_rfl) (by kernel_rfl) (fun _ _ _ h => h) (Or.inl ⟨by rfl, ?_⟩) (by assumption) ?_
      rotate_left
      · intro w hSw; (try dsimp only at hSw); go_simp; try with_reducible rfl
      try simp only [Act.put, List.getElem_toArray, List.getElem_cons_succ, List.getElem_cons_zero, List.setIfInBounds_toArray, List.set_cons_zero, List.set_cons_succ]
      refine wpAnyH_take (i := 5) (v := ?_) rfl (by kernel_rfl) (by kernel_rfl) (by kernel_rfl) (fun _ _ _ h => h) (Or.inl ⟨by rfl, ?_⟩) (by assumption) ?_
      rotate_left
      · intro w hSw; (try dsimp only at hSw); go_simp; try with_reducible rfl
      try simp only [Act.put, List.getElem_toArray, List.getElem_cons_succ, List.getElem_cons_zero, List.setIfInBounds_toArray, List.set_cons_zero, List.set_cons_succ]
      refine wpAnyH_ready (rs := [6]) (by kernel_rfl) (by simp) ?_
      refine AllReadyH.cons rfl (fun K hK => ?_) AllReadyH.nil
      rw [if_pos]
      rotate_left
      · kernel_rfl
      go_wp2_with (go_at_call 50; refine (HB.out _ D1d).mono ?_; rintro e w2 ⟨x, hx, rfl, hd2⟩; refine Hid.out ?_)
      refine (show ∀ {p : Prop}, p → Hid p from fun h => h) ?_
      refine hK.out _ _ (HC.out _ (D1d.drawn hd2) (blk_drawn b0d hd2 hne0)) (fun hHeld => ?_)
      clear hK K
      try simp only [Act.put, List.getElem_toArray, List.getElem_cons_succ, List.getElem_cons_zero, List.setIfInBounds_toArray, List.set_cons_zero, List.set_cons_succ]
      obtain ⟨e0, he0⟩ : ∃ e0, es[x]? = some e0 := ⟨es[x]'(by omega), List.getElem?_eq_getElem (by omega)⟩
      have D2 := D1d.drawn hd2
      have b2 := blk_drawn b1d hd2 hne1
      have O2 := own_drawn O1d hd2 hGB
      obtain ⟨bb, off, rfl, hbb, hcc⟩ := (Es_of_own O2).2.resolve_left (by omega)
      obtain ⟨v0, v1⟩ := hcc x e0 he0
      have x1 : (0 : Int) ≤ (x : Int) := by omega
      have x2 : (x : Int) < (m : Int) := hx
      have e0' : w2.cell? ⟨w.heap.size + 1, 0, none⟩ = some (.int .i64 0) := by rw [cell_of_row w2 _ 0 _ _ _ b2]; rfl
      have e1' : w2.cell? ⟨w.heap.size + 1, 1, none⟩ = some (.int .i64 0) := by rw [cell_of_row w2 _ 1 _ _ _ b2]; rfl
      have f0 := frozen_of_row w2 _ 0 _ _ b2
      have f1 := frozen_of_row w2 _ 1 _ _ b2
      have HD2 := hideIt D2
      have hgl2 := hGl
      have hS3 : ((w2.setCell ⟨w.heap.size + 1, 0, none⟩ (.int .i64 e0.1)).setCell ⟨w.heap.size + 1, 1, none⟩ (.int .i64 e0.2)).cell? ⟨w.heap.size, 1, none⟩ = some (.slice (some ⟨bb, off, none⟩) m c1) := by rw [set_other (by omega), set_other (by omega)]; exact hHeld
      clear D2 b2 O2 hcc hd2
      refine wpAnyH_ready (rs := [7]) (by kernel_rfl) (by simp) ?_
      refine AllReadyH.cons rfl (fun K hK => ?_) AllReadyH.nil
      go_simp
      refine hK.out _ _ (by assumption) (fun hHeld => ?_)
      clear hK K
      try simp only [Act.put, List.getElem_toArray, List.getElem_cons_succ, List.getElem_cons_zero, List.setIfInBounds_toArray, List.set_cons_zero, List.set_cons_succ]
      refine wpAnyH_ready (rs := [8]) (by kernel_rfl) (by simp) ?_
      refine AllReadyH.cons rfl (fun K hK => ?_) AllReadyH.nil
      go_simp
      refine hK.out _ _ (by assumption) (fun hHeld => ?_)
      clear hK K
      try simp only [Act.put, List.getElem_toArray, List.getElem_cons_succ, List.getElem_cons_zero, List.setIfInBounds_toArray, List.set_cons_zero, List.set_cons_succ]
      refine wpAnyH_ready (rs := [9]) (by kernel_rfl) (by simp) ?_
      refine AllReadyH.cons rfl (fun K hK => ?_) AllReadyH.nil
      go_simp
      refine hK.out _ _ (by assumption) (fun hHeld => ?_)
      clear hK K
      try simp only [Act.put, List.getElem_toArray, List.getElem_cons_succ, List.getElem_cons_zero, List.setIfInBounds_toArray, List.set_cons_zero, List.set_cons_succ]
      refine wpAnyH_done (by kernel_rfl) ?_ _

      go_wp2_with fail
      refine bodyPost_ret (v := .agg #[.int .i64 e0.1, .int .i64 e0.2]) (by simp [results, Try.results52, go_sem, e0', e1']) rfl ⟨e0, rfl, DS.fin ?_ HCode.out⟩
      exact (HD2.out.set hgl2 _ _ _ (by omega)).set hgl2 _ _ _ (by omega)
    | false =>
      clear z1 O1
      go_wp2_with (go_at_call 27; refine (HO.out 12 (by omega) (by omega) _ D1).mono ?_; rintro e w1 ⟨b, rfl, hd1⟩; refine Hid.out ?_)
      refine (show ∀ {p : Prop}, p → Hid p from fun h => h) ?_
      have D2 := D1.drawn hd1
      have b2 := blk_drawn b1 hd1 hne1
      have z2 := D2.size
      clear D1 b1 hd1 zz
      cases b with
      | true =>
        have HP : Hid (∀ (W : World) (zs : List Int), 0 < zs.length → zs.length ≤ 1000 → DS w W G a len cap → Calls Try.prog 51 #[.pointer (some ⟨G, 0, none⟩), .slice (some ⟨W.heap.size, 0, none⟩) zs.length zs.length] (W.alloc (.cells (zs.map (Value.int .i64)).toArray 3)) fun e w' => ∃ x : Int, e = .returned (.int .i64 x) ∧ Drawn (W.alloc (.cells (zs.map (Value.int .i64)).toArray 3)) w' G a len cap) := fun W zs h0 h1 hW => by
          have hW2 := hW.alloc (.cells (zs.map (Value.int .i64)).toArray 3)
          have hz := hW.size
          exact l01PickInt_any W.heap.size zs.length zs.length h0 h1 _ G a len cap hl hW2.cur (hW2.code HCode.out) (by simp) (by omega) (ints_new W zs 3)
        have P1 := hideIt (HP.out w1 [-1, 0, 5, 11, 12] (by simp) (by simp) D2)
        simp only [List.map_cons, List.map_nil, List.length_cons, List.length_nil, Nat.zero_add, Nat.reduceAdd] at P1
        go_wp2_with (go_at_call 51; refine P1.out.mono ?_; rintro e w2 ⟨x, rfl, hd2⟩; refine Hid.out ?_)
        refine (show ∀ {p : Prop}, p → Hid p from fun h => h) ?_
        have D3 := (D2.alloc _).drawn hd2
        have b3 := blk_drawn (blk_alloc b2 _) hd2 hne1
        clear hd2 b2 D2 P1
        have P2 := hideIt (HP.out w2 [0, 5, 11, 12] (by simp) (by simp) D3)
        simp only [List.map_cons, List.map_nil, List.length_cons, List.length_nil, Nat.zero_add, Nat.reduceAdd] at P2
        go_wp2_with (go_at_call 51; refine P2.out.mono ?_; rintro e w3 ⟨y, rfl, hd3⟩; refine Hid.out ?_)
        refine (show ∀ {p : Prop}, p → Hid p from fun h => h) ?_
        have D4 := (D3.alloc _).drawn hd3
        have b4 := blk_drawn (blk_alloc b3 _) hd3 hne1
        have e0 : w3.cell? ⟨w.heap.size + 1, 0, none⟩ = some (.int .i64 0) := by rw [cell_of_row w3 _ 0 _ _ _ b4]; rfl
        have e1 : w3.cell? ⟨w.heap.size + 1, 1, none⟩ = some (.int .i64 0) := by rw [cell_of_row w3 _ 1 _ _ _ b4]; rfl
        have f0 := frozen_of_row w3 _ 0 _ _ b4
        have f1 := frozen_of_row w3 _ 1 _ _ b4
        have HD3 := hideIt D4
        clear D4 D3 b3 b4 hd3 P2 HP
        go_wp2
        refine bodyPost_ret (v := .agg #[.int .i64 x, .int .i64 y]) (by simp [results, Try.results52, go_sem, e0, e1]) rfl ⟨(x, y), rfl, DS.fin ?_ HCode.out⟩
        exact (HD3.out.set hGl _ _ _ (by omega)).set hGl _ _ _ (by omega)
      | false =>
        go_wp2_with (go_at_call 72; refine (HE.out _ D2).mono ?_; rintro e w2 ⟨e2, _, rfl, hd2⟩; refine Hid.out ?_)
        refine (show ∀ {p : Prop}, p → Hid p from fun h => h) ?_
        have D3 := D2.drawn hd2
        have b3 := blk_drawn b2 hd2 hne1
        have e0 : w2.cell? ⟨w.heap.size + 1, 0, none⟩ = some (.int .i64 0) := by rw [cell_of_row w2 _ 0 _ _ _ b3]; rfl
        have e1 : w2.cell? ⟨w.heap.size + 1, 1, none⟩ = some (.int .i64 0) := by rw [cell_of_row w2 _ 1 _ _ _ b3]; rfl
        have f0 := frozen_of_row w2 _ 0 _ _ b3
        have f1 := frozen_of_row w2 _ 1 _ _ b3
        have HD2 := hideIt D3
        clear D3 D2 b2 b3 hd2
        go_wp2
        refine bodyPost_ret (v := .agg #[.int .i64 e2.1, .int .i64 e2.2]) (by simp [results, Try.results52, go_sem, e0, e1]) rfl ⟨e2, rfl, DS.fin ?_ HCode.out⟩
        exact (HD2.out.set hGl _ _ _ (by omega)).set hGl _ _ _ (by omega)

end Go.Proofs.Ytobcihdjennieaa
namespace Go.Proofs.Ytobcihdjennieaa
open Go.RowKit

/-- a question in a box -/
def Box4 (w : World) (b : Nat) (t : TypeId) (x0 x1 x2 x3 : Int) : Prop := w.heap[b]? = some (.cells #[.int .i64 x0, .int .i64 x1, .int .i64 x2, .int .i64 x3] t (0, 0))
section
variable {w u : World} {b : Nat} {t : TypeId} {x0 x1 x2 x3 : Int}
theorem Box4.cells (h : Box4 w b t x0 x1 x2 x3) : w.cell? ⟨b, 0, none⟩ = some (.int .i64 x0) ∧ w.cell? ⟨b, 1, none⟩ = some (.int .i64 x1) ∧ w.cell? ⟨b, 2, none⟩ = some (.int .i64 x2) ∧ w.cell? ⟨b, 3, none⟩ = some (.int .i64 x3) := by
  refine ⟨?_, ?_, ?_, ?_⟩ <;> (rw [cell_of_row w b _ _ _ _ h]; rfl)
theorem Box4.frozen (h : Box4 w b t x0 x1 x2 x3) (j : Nat) : w.frozen? ⟨b, j, none⟩ = false := frozen_of_row w b j _ _ h
theorem Box4.lt (h : Box4 w b t x0 x1 x2 x3) : b < w.heap.size := (Array.getElem?_eq_some_iff.1 h).1
theorem Box4.drawn {v : World} {G : Nat} {a : Option Addr} {len cap : Nat} (h : Box4 w b t x0 x1 x2 x3) (d : Drawn w v G a len cap) (hb : b ≠ G) : Box4 v b t x0 x1 x2 x3 := blk_drawn h d hb
theorem Box4.alloc (h : Box4 w b t x0 x1 x2 x3) (o : Obj) : Box4 (w.alloc o) b t x0 x1 x2 x3 := blk_alloc h o
theorem Box4.set0 (h : Box4 w b t x0 x1 x2 x3) (z : Int) : Box4 (w.setCell ⟨b, 0, none⟩ (.int .i64 z)) b t z x1 x2 x3 := by unfold Box4; rw [heap_setCell_same w b 0 _ t _ h]; rfl
theorem Box4.set1 (h : Box4 w b t x0 x1 x2 x3) (z : Int) : Box4 (w.setCell ⟨b, 1, none⟩ (.int .i64 z)) b t x0 z x2 x3 := by unfold Box4; rw [heap_setCell_same w b 1 _ t _ h]; rfl
theorem Box4.set2 (h : Box4 w b t x0 x1 x2 x3) (z : Int) : Box4 (w.setCell ⟨b, 2, none⟩ (.int .i64 z)) b t x0 x1 z x3 := by unfold Box4; rw [heap_setCell_same w b 2 _ t _ h]; rfl
theorem Box4.set3 (h : Box4 w b t x0 x1 x2 x3) (z : Int) : Box4 (w.setCell ⟨b, 3, none⟩ (.int .i64 z)) b t x0 x1 x2 z := by unfold Box4; rw [heap_setCell_same w b 3 _ t _ h]; rfl
theorem Box4.setO (h : Box4 w b t x0 x1 x2 x3) (G j : Nat) (v : Value) (hb : b ≠ G) : Box4 (w.setCell ⟨G, j, none⟩ v) b t x0 x1 x2 x3 := by unfold Box4; rw [heap_setCell_other w ⟨G, j, none⟩ b v hb]; exact h
end
/-- where the drawing of a question stands: the answer's box, the question's -/
structure AkS (w : World) (G : Nat) (a : Option Addr) (len cap : Nat) (Y : Nat) (x0 x1 x2 x3 : Int) (u : World) : Prop where
  d : DS w u G a len cap
  r : Box4 u w.heap.size 28 0 0 0 0
  y : Box4 u Y 28 x0 x1 x2 x3
  hY : w.heap.size < Y
  hG : G < w.heap.size
section
variable {w u v : World} {G : Nat} {a : Option Addr} {len cap Y : Nat} {x0 x1 x2 x3 : Int}
theorem AkS.drawn (h : AkS w G a len cap Y x0 x1 x2 x3 u) (d : Drawn u v G a len cap) : AkS w G a len cap Y x0 x1 x2 x3 v :=
  ⟨h.d.drawn d, h.r.drawn d (by have := h.hG; omega), h.y.drawn d (by have := h.hG; have := h.hY; omega), h.hY, h.hG⟩
theorem AkS.alloc (h : AkS w G a len cap Y x0 x1 x2 x3 u) (o : Obj) : AkS w G a len cap Y x0 x1 x2 x3 (u.alloc o) := ⟨h.d.alloc o, h.r.alloc o, h.y.alloc o, h.hY, h.hG⟩
theorem AkS.set1 (h : AkS w G a len cap Y x0 x1 x2 x3 u) (z : Int) : AkS w G a len cap Y x0 z x2 x3 (u.setCell ⟨Y, 1, none⟩ (.int .i64 z)) := ⟨h.d.set h.hG _ _ _ (by have := h.hY; omega), h.r.setO _ _ _ (by have := h.hY; omega), h.y.set1 z, h.hY, h.hG⟩
theorem AkS.set2 (h : AkS w G a len cap Y x0 x1 x2 x3 u) (z : Int) : AkS w G a len cap Y x0 x1 z x3 (u.setCell ⟨Y, 2, none⟩ (.int .i64 z)) := ⟨h.d.set h.hG _ _ _ (by have := h.hY; omega), h.r.setO _ _ _ (by have := h.hY; omega), h.y.set2 z, h.hY, h.hG⟩
theorem AkS.set3 (h : AkS w G a len cap Y x0 x1 x2 x3 u) (z : Int) : AkS w G a len cap Y x0 x1 x2 z (u.setCell ⟨Y, 3, none⟩ (.int .i64 z)) := ⟨h.d.set h.hG _ _ _ (by have := h.hY; omega), h.r.setO _ _ _ (by have := h.hY; omega), h.y.set3 z, h.hY, h.hG⟩
end


set_option maxRecDepth 100000 in
set_option maxHeartbeats 4000000 in
theorem l12Ask_any (n s id : Int) (hn0 : 0 < n) (hn : n ≤ 1000) (hs0 : 0 < s) (hs : s ≤ 1000) (w : World) (G : Nat) (a : Option Addr) (len cap : Nat) (hl : len ≤ 1048576) (hcur : Cur w G a len cap) (hcode : Code w G a len) :
    Calls Try.prog 26 #[.pointer (some ⟨G, 0, none⟩), .int .i64 n, .int .i64 s, .int .i64 id] w fun e w' => ∃ xi xo xa xb : Int, e = .returned (.agg #[.int .i64 xi, .int .i64 xo, .int .i64 xa, .int .i64 xb]) ∧ Drawn w w' G a len cap := by
  have hGl := hcur.lt
  have HCode := hideIt hcode
  have HB : Hid (∀ (q : Int), 0 < q → q ≤ 1000 → ∀ W, DS w W G a len cap → Calls Try.prog 50 #[.pointer (some ⟨G, 0, none⟩), .int .i64 q] W fun e w' => ∃ x : Nat, (x : Int) < q ∧ e = .returned (.int .i64 (x : Int)) ∧ Drawn W w' G a len cap) := fun q h0 h1 W hW => l01Below_any q h0 (by omega) W G a len cap hl hW.cur (hW.code hcode)
  have HP : Hid (∀ (W : World) (zs : List Int), 0 < zs.length → zs.length ≤ 1000 → DS w W G a len cap → Calls Try.prog 51 #[.pointer (some ⟨G, 0, none⟩), .slice (some ⟨W.heap.size, 0, none⟩) zs.length zs.length] (W.alloc (.cells (zs.map (Value.int .i64)).toArray 3)) fun e w' => ∃ x : Int, e = .returned (.int .i64 x) ∧ Drawn (W.alloc (.cells (zs.map (Value.int .i64)).toArray 3)) w' G a len cap) := fun W zs h0 h1 hW => by
    have hW2 := hW.alloc (.cells (zs.map (Value.int .i64)).toArray 3)
    have hz := hW.size
    exact l01PickInt_any W.heap.size zs.length zs.length h0 h1 _ G a len cap hl hW2.cur (hW2.code HCode.out) (by simp) (by omega) (ints_new W zs 3)
  have D0 : DS w (w.alloc (.cells #[.int .i64 0, .int .i64 0, .int .i64 0, .int .i64 0] 28)) G a len cap := (DS.start hcur).alloc _
  have r0 : Box4 (w.alloc (.cells #[.int .i64 0, .int .i64 0, .int .i64 0, .int .i64 0] 28)) w.heap.size 28 0 0 0 0 := heap_alloc_new w _
  have hG1 : w.heap.size ≠ G := by omega
  have zs : (w.alloc (.cells #[.int .i64 0, .int .i64 0, .int .i64 0, .int .i64 0] 28)).heap.size = w.heap.size + 1 := by simp
  have P1 := hideIt (HP.out _ [1, 1, 1, 1, 2, 2, 3, 3, 4] (by simp) (by simp) D0)
  simp only [List.map_cons, List.map_nil, List.length_cons, List.length_nil, Nat.zero_add, Nat.reduceAdd, zs] at P1
  have D0' := D0.alloc (.cells #[.int .i64 1, .int .i64 1, .int .i64 1, .int .i64 1, .int .i64 2, .int .i64 2, .int .i64 3, .int .i64 3, .int .i64 4] 3)
  have r0' := r0.alloc (.cells #[.int .i64 1, .int .i64 1, .int .i64 1, .int .i64 1, .int .i64 2, .int .i64 2, .int .i64 3, .int .i64 3, .int .i64 4] 3)
  clear hcur hcode D0 r0
  go_enter Try.func26, Try.ntmps26
  go_wp2_with (go_at_call 51; refine P1.out.mono ?_; rintro e w1 ⟨xo, rfl, hd1⟩; refine Hid.out ?_)
  refine (show ∀ {p : Prop}, p → Hid p from fun h => h) ?_
  have D1 := D0'.drawn hd1
  have r1 := r0'.drawn hd1 hG1
  clear P1 D0' r0' hd1 zs
  have B1 := hideIt (HB.out n hn0 hn _ D1)
  go_wp2_with (go_at_call 50; refine B1.out.mono ?_; rintro e w2 ⟨xa, _, rfl, hd2⟩; refine Hid.out ?_)
  refine (show ∀ {p : Prop}, p → Hid p from fun h => h) ?_
  have D2 := D1.drawn hd2
  have r2 := r1.drawn hd2 hG1
  clear D1 r1 B1 hd2
  have B2 := hideIt (HB.out n hn0 hn _ D2)
  go_wp2_with (go_at_call 50; refine B2.out.mono ?_; rintro e w3 ⟨xb, _, rfl, hd3⟩; refine Hid.out ?_)
  refine (show ∀ {p : Prop}, p → Hid p from fun h => h) ?_
  have D3 := D2.drawn hd3
  have r3 := r2.drawn hd3 hG1
  have z3 := r3.lt
  clear D2 r2 B2 hd3
  have S4 : AkS w G a len cap w3.heap.size id xo (xa : Int) (xb : Int) (w3.alloc (.cells #[.int .i64 id, .int .i64 xo, .int .i64 (xa : Int), .int .i64 (xb : Int)] 28)) := ⟨D3.alloc _, r3.alloc _, heap_alloc_new w3 _, z3, hGl⟩
  generalize (xa : Int) = ya at *
  generalize (xb : Int) = yb at *
  clear D3 r3
  obtain ⟨W4, hW4⟩ : ∃ W4, W4 = w3.alloc (.cells #[.int .i64 id, .int .i64 xo, .int .i64 ya, .int .i64 yb] 28) := ⟨_, rfl⟩
  rw [← hW4] at S4
  go_upto_region 2 with fail
  rw [← hW4]
  clear hW4
  generalize w3.heap.size = Y at *
  have HS4 := hideIt S4
  obtain ⟨y0, y1, y2, y3⟩ := S4.y.cells
  have zY := S4.y.lt
  clear S4
  have HFin : Hid (∀ (u : World) (z0 z1 z2 z3 : Int), AkS w G a len cap Y z0 z1 z2 z3 u → (u.cell? ⟨w.heap.size, 0, none⟩ = some (.int .i64 0) ∧ u.cell? ⟨w.heap.size, 1, none⟩ = some (.int .i64 0) ∧ u.cell? ⟨w.heap.size, 2, none⟩ = some (.int .i64 0) ∧ u.cell? ⟨w.heap.size, 3, none⟩ = some (.int .i64 0)) ∧ (∀ j, u.frozen? ⟨w.heap.size, j, none⟩ = false) ∧ Drawn w ((((u.setCell ⟨w.heap.size, 0, none⟩ (.int .i64 z0)).setCell ⟨w.heap.size, 1, none⟩ (.int .i64 z1)).setCell ⟨w.heap.size, 2, none⟩ (.int .i64 z2)).setCell ⟨w.heap.size, 3, none⟩ (.int .i64 z3)) G a len cap) := fun u z0 z1 z2 z3 h => ⟨h.r.cells, h.r.frozen, DS.fin ((((h.d.set hGl _ _ _ (Nat.le_refl _)).set hGl _ _ _ (Nat.le_refl _)).set hGl _ _ _ (Nat.le_refl _)).set hGl _ _ _ (Nat.le_refl _)) HCode.out⟩
  by_cases h4 : xo = 4
  · have e4 : (xo == 4) = true := by simpa using h4
    have B4 := hideIt (HB.out s hs0 hs _ HS4.out.d)
    clear h4
    go_wp2_with (go_at_call 50; refine B4.out.mono ?_; rintro e w5 ⟨k, hk, rfl, hd5⟩; refine Hid.out ?_)
    refine (show ∀ {p : Prop}, p → Hid p from fun h => h) ?_
    have S5 := HS4.out.drawn hd5
    have HS := hideIt (S5.set3 (1 + (k : Int)))
    obtain ⟨k0, k1, k2, k3⟩ := S5.y.cells
    have kf := S5.y.frozen 3
    have kl := S5.y.lt
    have hw1 : IntKind.i64.wrap (1 + (k : Int)) = 1 + (k : Int) := by rw [IntKind.wrap_i64]; omega
    clear S5 hd5 B4 y0 y1 y2 y3 HS4
    obtain ⟨W5, hW5⟩ : ∃ W5, W5 = w5.setCell ⟨Y, 3, none⟩ (.int .i64 (1 + (k : Int))) := ⟨_, rfl⟩
    rw [← hW5] at HS
    go_upto_region 4 with fail
    rw [← hW5]
    clear hW5 k0 k1 k2 k3 kf kl hw1
    generalize 1 + (k : Int) = yb' at *
    clear hk
    have B6 := hideIt (HB.out 30 (by omega) (by omega) _ HS.out.d)
    go_wp2_with (go_at_call 50; refine B6.out.mono ?_; rintro e w7 ⟨k, hk', rfl, hd7⟩; refine Hid.out ?_)
    refine (show ∀ {p : Prop}, p → Hid p from fun h => h) ?_
    replace HS := hideIt (HS.out.drawn hd7)
    clear B6 hd7
    by_cases h0 : k = 0
    · subst h0
      have P1 := hideIt (HP.out _ [-1, n, 11, 12] (by simp) (by simp) HS.out.d)
      simp only [List.map_cons, List.map_nil, List.length_cons, List.length_nil, Nat.zero_add, Nat.reduceAdd] at P1
      obtain ⟨y0, y1, y2, y3⟩ := HS.out.y.cells
      go_wp2_with (go_at_call 51; refine P1.out.mono ?_; rintro e w5 ⟨x, rfl, hd5⟩; refine Hid.out ?_)
      refine (show ∀ {p : Prop}, p → Hid p from fun h => h) ?_
      have S5 := (HS.out.alloc _).drawn hd5
      have S6 := hideIt (S5.set2 x)
      obtain ⟨c0, c1, c2', c3⟩ := S5.y.cells
      have cf := S5.y.frozen 2
      have cl := S5.y.lt
      clear S5 hd5 P1 y0 y1 y2 y3 HS
      obtain ⟨W6, hW6⟩ : ∃ W6, W6 = w5.setCell ⟨Y, 2, none⟩ (.int .i64 x) := ⟨_, rfl⟩
      rw [← hW6] at S6
      go_upto_region 11 with fail
      rw [← hW6]
      clear hW6 c0 c1 c2' c3 cf cl
      obtain ⟨⟨r0, r1, r2, r3⟩, rf, HDr⟩ := HFin.out _ _ _ _ _ S6.out
      have f0 := rf 0
      have f1 := rf 1
      have f2 := rf 2
      have f3 := rf 3
      obtain ⟨y0, y1, y2, y3⟩ := S6.out.y.cells
      have zY := S6.out.y.lt
      have hHD := hideIt HDr
      clear HDr rf S6
      go_wp2
      exact bodyPost_ret (v := .agg #[.int .i64 id, .int .i64 xo, .int .i64 x, .int .i64 yb']) (by simp [results, Try.results26, go_sem, r0, r1, r2, r3]) rfl ⟨_, _, _, _, rfl, hHD.out⟩
    · have n0 : ((k : Int) == 0) = false := by simpa using (show ¬ (k : Int) = 0 by omega)
      clear h0
      by_cases h1 : k = 1
      · subst h1
        have P1 := hideIt (HP.out _ [-1, 0, n, 12] (by simp) (by simp) HS.out.d)
        simp only [List.map_cons, List.map_nil, List.length_cons, List.length_nil, Nat.zero_add, Nat.reduceAdd] at P1
        obtain ⟨y0, y1, y2, y3⟩ := HS.out.y.cells
        go_wp2_with (go_at_call 51; refine P1.out.mono ?_; rintro e w5 ⟨x, rfl, hd5⟩; refine Hid.out ?_)
        refine (show ∀ {p : Prop}, p → Hid p from fun h => h) ?_
        have S5 := (HS.out.alloc _).drawn hd5
        have S6 := hideIt (S5.set3 x)
        obtain ⟨c0, c1, c2', c3⟩ := S5.y.cells
        have cf := S5.y.frozen 3
        have cl := S5.y.lt
        clear S5 hd5 P1 y0 y1 y2 y3 HS
        obtain ⟨W6, hW6⟩ : ∃ W6, W6 = w5.setCell ⟨Y, 3, none⟩ (.int .i64 x) := ⟨_, rfl⟩
        rw [← hW6] at S6
        go_upto_region 11 with fail
        rw [← hW6]
        clear hW6 c0 c1 c2' c3 cf cl
        obtain ⟨⟨r0, r1, r2, r3⟩, rf, HDr⟩ := HFin.out _ _ _ _ _ S6.out
        have f0 := rf 0
        have f1 := rf 1
        have f2 := rf 2
        have f3 := rf 3
        obtain ⟨y0, y1, y2, y3⟩ := S6.out.y.cells
        have zY := S6.out.y.lt
        have hHD := hideIt HDr
        clear HDr rf S6
        go_wp2
        exact bodyPost_ret (v := .agg #[.int .i64 id, .int .i64 xo, .int .i64 ya, .int .i64 x]) (by simp [results, Try.results26, go_sem, r0, r1, r2, r3]) rfl ⟨_, _, _, _, rfl, hHD.out⟩
      · have n1 : ((k : Int) == 1) = false := by simpa using (show ¬ (k : Int) = 1 by omega)
        clear h1
        by_cases h2 : k = 2
        · subst h2
          have P1 := hideIt (HP.out _ [0, 5] (by simp) (by simp) HS.out.d)
          simp only [List.map_cons, List.map_nil, List.length_cons, List.length_nil, Nat.zero_add, Nat.reduceAdd] at P1
          obtain ⟨y0, y1, y2, y3⟩ := HS.out.y.cells
          go_wp2_with (go_at_call 51; refine P1.out.mono ?_; rintro e w5 ⟨x, rfl, hd5⟩; refine Hid.out ?_)
          refine (show ∀ {p : Prop}, p → Hid p from fun h => h) ?_
          have S5 := (HS.out.alloc _).drawn hd5
          have S6 := hideIt (S5.set1 x)
          obtain ⟨c0, c1, c2', c3⟩ := S5.y.cells
          have cf := S5.y.frozen 1
          have cl := S5.y.lt
          clear S5 hd5 P1 y0 y1 y2 y3 HS
          obtain ⟨W6, hW6⟩ : ∃ W6, W6 = w5.setCell ⟨Y, 1, none⟩ (.int .i64 x) := ⟨_, rfl⟩
          rw [← hW6] at S6
          go_upto_region 11 with fail
          rw [← hW6]
          clear hW6 c0 c1 c2' c3 cf cl
          obtain ⟨⟨r0, r1, r2, r3⟩, rf, HDr⟩ := HFin.out _ _ _ _ _ S6.out
          have f0 := rf 0
          have f1 := rf 1
          have f2 := rf 2
          have f3 := rf 3
          obtain ⟨y0, y1, y2, y3⟩ := S6.out.y.cells
          have zY := S6.out.y.lt
          have hHD := hideIt HDr
          clear HDr rf S6
          go_wp2
          exact bodyPost_ret (v := .agg #[.int .i64 id, .int .i64 x, .int .i64 ya, .int .i64 yb']) (by simp [results, Try.results26, go_sem, r0, r1, r2, r3]) rfl ⟨_, _, _, _, rfl, hHD.out⟩
        · have n2 : ((k : Int) == 2) = false := by simpa using (show ¬ (k : Int) = 2 by omega)
          clear h2
          obtain ⟨⟨r0, r1, r2, r3⟩, rf, HDr⟩ := HFin.out _ _ _ _ _ HS.out
          have f0 := rf 0
          have f1 := rf 1
          have f2 := rf 2
          have f3 := rf 3
          obtain ⟨y0, y1, y2, y3⟩ := HS.out.y.cells
          have zY := HS.out.y.lt
          have hHD := hideIt HDr
          clear HDr rf HS
          go_wp2
          exact bodyPost_ret (v := .agg #[.int .i64 id, .int .i64 xo, .int .i64 ya, .int .i64 yb']) (by simp [results, Try.results26, go_sem, r0, r1, r2, r3]) rfl ⟨_, _, _, _, rfl, hHD.out⟩
  · have e4 : (xo == 4) = false := by simpa using h4
    clear h4
    have HS := HS4
    go_upto_region 4 with fail
    clear HS4 y0 y1 y2 y3
    have B6 := hideIt (HB.out 30 (by omega) (by omega) _ HS.out.d)
    go_wp2_with (go_at_call 50; refine B6.out.mono ?_; rintro e w7 ⟨k, hk', rfl, hd7⟩; refine Hid.out ?_)
    refine (show ∀ {p : Prop}, p → Hid p from fun h => h) ?_
    replace HS := hideIt (HS.out.drawn hd7)
    clear B6 hd7
    by_cases h0 : k = 0
    · subst h0
      have P1 := hideIt (HP.out _ [-1, n, 11, 12] (by simp) (by simp) HS.out.d)
      simp only [List.map_cons, List.map_nil, List.length_cons, List.length_nil, Nat.zero_add, Nat.reduceAdd] at P1
      obtain ⟨y0, y1, y2, y3⟩ := HS.out.y.cells
      go_wp2_with (go_at_call 51; refine P1.out.mono ?_; rintro e w5 ⟨x, rfl, hd5⟩; refine Hid.out ?_)
      refine (show ∀ {p : Prop}, p → Hid p from fun h => h) ?_
      have S5 := (HS.out.alloc _).drawn hd5
      have S6 := hideIt (S5.set2 x)
      obtain ⟨c0, c1, c2', c3⟩ := S5.y.cells
      have cf := S5.y.frozen 2
      have cl := S5.y.lt
      clear S5 hd5 P1 y0 y1 y2 y3 HS
      obtain ⟨W6, hW6⟩ : ∃ W6, W6 = w5.setCell ⟨Y, 2, none⟩ (.int .i64 x) := ⟨_, rfl⟩
      rw [← hW6] at S6
      go_upto_region 11 with fail
      rw [← hW6]
      clear hW6 c0 c1 c2' c3 cf cl
      obtain ⟨⟨r0, r1, r2, r3⟩, rf, HDr⟩ := HFin.out _ _ _ _ _ S6.out
      have f0 := rf 0
      have f1 := rf 1
      have f2 := rf 2
      have f3 := rf 3
      obtain ⟨y0, y1, y2, y3⟩ := S6.out.y.cells
      have zY := S6.out.y.lt
      have hHD := hideIt HDr
      clear HDr rf S6
      go_wp2
      exact bodyPost_ret (v := .agg #[.int .i64 id, .int .i64 xo, .int .i64 x, .int .i64 yb]) (by simp [results, Try.results26, go_sem, r0, r1, r2, r3]) rfl ⟨_, _, _, _, rfl, hHD.out⟩
    · have n0 : ((k : Int) == 0) = false := by simpa using (show ¬ (k : Int) = 0 by omega)
      clear h0
      by_cases h1 : k = 1
      · subst h1
        have P1 := hideIt (HP.out _ [-1, 0, n, 12] (by simp) (by simp) HS.out.d)
        simp only [List.map_cons, List.map_nil, List.length_cons, List.length_nil, Nat.zero_add, Nat.reduceAdd] at P1
        obtain ⟨y0, y1, y2, y3⟩ := HS.out.y.cells
        go_wp2_with (go_at_call 51; refine P1.out.mono ?_; rintro e w5 ⟨x, rfl, hd5⟩; refine Hid.out ?_)
        refine (show ∀ {p : Prop}, p → Hid p from fun h => h) ?_
        have S5 := (HS.out.alloc _).drawn hd5
        have S6 := hideIt (S5.set3 x)
        obtain ⟨c0, c1, c2', c3⟩ := S5.y.cells
        have cf := S5.y.frozen 3
        have cl := S5.y.lt
        clear S5 hd5 P1 y0 y1 y2 y3 HS
        obtain ⟨W6, hW6⟩ : ∃ W6, W6 = w5.setCell ⟨Y, 3, none⟩ (.int .i64 x) := ⟨_, rfl⟩
        rw [← hW6] at S6
        go_upto_region 11 with fail
        rw [← hW6]
        clear hW6 c0 c1 c2' c3 cf cl
        obtain ⟨⟨r0, r1, r2, r3⟩, rf, HDr⟩ := HFin.out _ _ _ _ _ S6.out
        have f0 := rf 0
        have f1 := rf 1
        have f2 := rf 2
        have f3 := rf 3
        obtain ⟨y0, y1, y2, y3⟩ := S6.out.y.cells
        have zY := S6.out.y.lt
        have hHD := hideIt HDr
        clear HDr rf S6
        go_wp2
        exact bodyPost_ret (v := .agg #[.int .i64 id, .int .i64 xo, .int .i64 ya, .int .i64 x]) (by simp [results, Try.results26, go_sem, r0, r1, r2, r3]) rfl ⟨_, _, _, _, rfl, hHD.out⟩
      · have n1 : ((k : Int) == 1) = false := by simpa using (show ¬ (k : Int) = 1 by omega)
        clear h1
        by_cases h2 : k = 2
        · subst h2
          have P1 := hideIt (HP.out _ [0, 5] (by simp) (by simp) HS.out.d)
          simp only [List.map_cons, List.map_nil, List.length_cons, List.length_nil, Nat.zero_add, Nat.reduceAdd] at P1
          obtain ⟨y0, y1, y2, y3⟩ := HS.out.y.cells
          go_wp2_with (go_at_call 51; refine P1.out.mono ?_; rintro e w5 ⟨x, rfl, hd5⟩; refine Hid.out ?_)
          refine (show ∀ {p : Prop}, p → Hid p from fun h => h) ?_
          have S5 := (HS.out.alloc _).drawn hd5
          have S6 := hideIt (S5.set1 x)
          obtain ⟨c0, c1, c2', c3⟩ := S5.y.cells
          have cf := S5.y.frozen 1
          have cl := S5.y.lt
          clear S5 hd5 P1 y0 y1 y2 y3 HS
          obtain ⟨W6, hW6⟩ : ∃ W6, W6 = w5.setCell ⟨Y, 1, none⟩ (.int .i64 x) := ⟨_, rfl⟩
          rw [← hW6] at S6
          go_upto_region 11 with fail
          rw [← hW6]
          clear hW6 c0 c1 c2' c3 cf cl
          obtain ⟨⟨r0, r1, r2, r3⟩, rf, HDr⟩ := HFin.out _ _ _ _ _ S6.out
          have f0 := rf 0
          have f1 := rf 1
          have f2 := rf 2
          have f3 := rf 3
          obtain ⟨y0, y1, y2, y3⟩ := S6.out.y.cells
          have zY := S6.out.y.lt
          have hHD := hideIt HDr
          clear HDr rf S6
          go_wp2
          exact bodyPost_ret (v := .agg #[.int .i64 id, .int .i64 x, .int .i64 ya, .int .i64 yb]) (by simp [results, Try.results26, go_sem, r0, r1, r2, r3]) rfl ⟨_, _, _, _, rfl, hHD.out⟩
        · have n2 : ((k : Int) == 2) = false := by simpa using (show ¬ (k : Int) = 2 by omega)
          clear h2
          obtain ⟨⟨r0, r1, r2, r3⟩, rf, HDr⟩ := HFin.out _ _ _ _ _ HS.out
          have f0 := rf 0
          have f1 := rf 1
          have f2 := rf 2
          have f3 := rf 3
          obtain ⟨y0, y1, y2, y3⟩ := HS.out.y.cells
          have zY := HS.out.y.lt
          have hHD := hideIt HDr
          clear HDr rf HS
          go_wp2
          exact bodyPost_ret (v := .agg #[.int .i64 id, .int .i64 xo, .int .i64 ya, .int .i64 yb]) (by simp [results, Try.results26, go_sem, r0, r1, r2, r3]) rfl ⟨_, _, _, _, rfl, hHD.out⟩
end Go.Proofs.Ytobcihdjennieaa
namespace Go.Proofs.Ytobcihdjennieaa
open Go.RowKit

theorem own_kindG {u : World} {lo b j n t e s : Nat} {v x : Value} {xs : List Value} {cs : Array Value} {fr : Nat × Nat} (h : u.ownsRow lo e s v n xs) (hb : u.heap[b]? = some (.cells cs t fr)) (hte : t ≠ e) : (u.setCell ⟨b, j, none⟩ x).ownsRow lo e s v n xs := by
  refine ⟨h.1, ?_⟩
  rcases h.2 with h3 | ⟨g, cap, cur, hv, hg, hcur, hrest⟩
  · exact .inl h3
  · refine .inr ⟨g, cap, cur, hv, hg, ?_, hrest⟩
    rw [heap_setCell_other u ⟨b, j, none⟩ g x (fun e2 => by
      have e2 : g = b := e2
      subst e2
      rw [hcur] at hb
      simp at hb
      exact hte hb.2.1.symm)]
    exact hcur
theorem own_blk {u : World} {lo b n t e s : Nat} {v : Value} {xs : List Value} {cs : Array Value} {fr : Nat × Nat} (h : u.ownsRow lo e s v n xs) (hb : u.heap[b]? = some (.cells cs t fr)) (hte : t ≠ e) : some b ≠ v.ownBlock := by
  intro e1
  rcases h.2 with ⟨h3, _⟩ | ⟨g, cap, cur, hv, hg, hcur, _⟩
  · rw [h3] at e1
    simp [Value.ownBlock] at e1
  · rw [hv] at e1
    simp [Value.ownBlock] at e1
    subst e1
    rw [hcur] at hb
    simp at hb
    exact hte hb.2.1.symm
theorem Box2.setA {w : World} {b : Nat} {t : TypeId} {v0 v1 : Value} (h : Box2 w b t v0 v1) (x : Value) : Box2 (w.setCell ⟨b, 0, none⟩ x) b t x v1 := by unfold Box2; rw [heap_setCell_same w b 0 _ t x h]; rfl
theorem Box2.setB {w : World} {b : Nat} {t : TypeId} {v0 v1 : Value} (h : Box2 w b t v0 v1) (x : Value) : Box2 (w.setCell ⟨b, 1, none⟩ x) b t v0 x := by unfold Box2; rw [heap_setCell_same w b 1 _ t x h]; rfl
theorem Box2.setO {w : World} {b : Nat} {t : TypeId} {v0 v1 : Value} (h : Box2 w b t v0 v1) (G j : Nat) (x : Value) (hb : b ≠ G) : Box2 (w.setCell ⟨G, j, none⟩ x) b t v0 v1 := by unfold Box2; rw [heap_setCell_other w ⟨G, j, none⟩ b x hb]; exact h
theorem tIG_ne : 26 ≠ 59 := by decide
/-- where the drawing of a graph stands: the answer's box, the graph's, its edges -/
structure AGS (w : World) (G : Nat) (a : Option Addr) (len cap X : Nat) (N : Int) (es : List EdgeV) (a1 : Option Addr) (m c1 : Nat) (u : World) : Prop where
  d : DS w u G a len cap
  r : Box2 u w.heap.size 26 (.int .i64 0) (.slice none 0 0)
  g : Box2 u X 26 (.int .i64 N) (.slice a1 m c1)
  own : u.ownsRow (w.heap.size + 1) 59 2 (.slice a1 m c1) m (ecells es)
  hX : w.heap.size < X
  hG : G < w.heap.size
section
variable {w u v : World} {G : Nat} {a : Option Addr} {len cap X : Nat} {N : Int} {es : List EdgeV} {a1 : Option Addr} {m c1 : Nat}
theorem AGS.drawn (h : AGS w G a len cap X N es a1 m c1 u) (d : Drawn u v G a len cap) : AGS w G a len cap X N es a1 m c1 v :=
  ⟨h.d.drawn d, blk_drawn h.r d (by have := h.hG; omega), blk_drawn h.g d (by have := h.hG; have := h.hX; omega), own_drawn h.own d (by have := h.hG; omega), h.hX, h.hG⟩
theorem AGS.alloc (h : AGS w G a len cap X N es a1 m c1 u) (o : Obj) : AGS w G a len cap X N es a1 m c1 (u.alloc o) := ⟨h.d.alloc o, h.r.alloc o, h.g.alloc o, h.own.alloc o, h.hX, h.hG⟩
theorem AGS.drew (h : AGS w G a len cap X N es a1 m c1 u) : AGS w G a len cap X N es a1 m c1 u.drew := ⟨h.d.drew, h.r, h.g, h.own.drew, h.hX, h.hG⟩
theorem AGS.setN (h : AGS w G a len cap X N es a1 m c1 u) (z : Int) : AGS w G a len cap X z es a1 m c1 (u.setCell ⟨X, 0, none⟩ (.int .i64 z)) :=
  ⟨h.d.set h.hG _ _ _ (by have := h.hX; omega), h.r.setO _ _ _ (by have := h.hX; omega), h.g.setA _, own_kindG h.own h.g tIG_ne, h.hX, h.hG⟩
theorem AGS.nil (h : AGS w G a len cap X N es a1 m c1 u) (z : Int) : AGS w G a len cap X z [] none 0 0 ((u.setCell ⟨X, 0, none⟩ (.int .i64 z)).setCell ⟨X, 1, none⟩ (.slice none 0 0)) :=
  ⟨(h.d.set h.hG _ _ _ (by have := h.hX; omega)).set h.hG _ _ _ (by have := h.hX; omega), (h.r.setO _ _ _ (by have := h.hX; omega)).setO _ _ _ (by have := h.hX; omega), h.g.set _ _, World.ownsRow_nil _ _ _ _, h.hX, h.hG⟩
theorem AGS.row (h : AGS w G a len cap X N es a1 m c1 u) (hg : u.grownBy v (Value.slice a1 m c1).ownBlock) : DS w v G a len cap ∧ Box2 v w.heap.size 26 (.int .i64 0) (.slice none 0 0) ∧ Box2 v X 26 (.int .i64 N) (.slice a1 m c1) :=
  ⟨h.d.row h.hG hg (fun q hq => by have := (h.own.lt q hq).1; omega), h.r.grown hg (own_blk h.own h.r tIG_ne), h.g.grown hg (own_blk h.own h.g tIG_ne)⟩
theorem AGS.app {es2 : List EdgeV} {a2 : Option Addr} {m2 c2 : Nat} (h : AGS w G a len cap X N es a1 m c1 u) (hg : u.grownBy v (Value.slice a1 m c1).ownBlock) (ho : v.ownsRow (w.heap.size + 1) 59 2 (.slice a2 m2 c2) m2 (ecells es2)) :
    AGS w G a len cap X N es2 a2 m2 c2 (v.setCell ⟨X, 1, none⟩ (.slice a2 m2 c2)) := by
  obtain ⟨d, r, g⟩ := h.row hg
  exact ⟨d.set h.hG _ _ _ (by have := h.hX; omega), r.setO _ _ _ (by have := h.hX; omega), g.setB _, own_kindG ho g tIG_ne, h.hX, h.hG⟩
/-- the graph is answered -/
theorem AGS.fin (h : AGS w G a len cap X N es a1 m c1 u) : ((u.setCell ⟨w.heap.size, 0, none⟩ (.int .i64 N)).setCell ⟨w.heap.size, 1, none⟩ (.slice a1 m c1)).ownsRow w.heap.size 59 2 (.slice a1 m c1) m (ecells es) ∧ DS w ((u.setCell ⟨w.heap.size, 0, none⟩ (.int .i64 N)).setCell ⟨w.heap.size, 1, none⟩ (.slice a1 m c1)) G a len cap :=
  ⟨own_mono (own_setLow (own_setLow h.own _ 0 _ (by omega)) _ 1 _ (by omega)) (by omega), (h.d.set h.hG _ _ _ (Nat.le_refl _)).set h.hG _ _ _ (Nat.le_refl _)⟩
end


set_option maxRecDepth 100000 in
set_option maxHeartbeats 8000000 in
theorem l05AnyGraph_any (w : World) (G : Nat) (a : Option Addr) (len cap : Nat) (hl : len ≤ 1048576) (hcur : Cur w G a len cap) (hcode : Code w G a len) :
    Calls Try.prog 24 #[.pointer (some ⟨G, 0, none⟩)] w fun x w' => ∃ (N : Int) (es : List EdgeV) (a1 : Option Addr) (m c1 : Nat), m ≤ 200 ∧ x = .returned (.agg #[.int .i64 N, .slice a1 m c1]) ∧ w'.ownsRow w.heap.size 59 2 (.slice a1 m c1) m (ecells es) ∧ Drawn w w' G a len cap := by
  obtain ⟨i0, hi, hz0, hz1, hz2⟩ := info_parts infoIE
  have hGl := hcur.lt
  have HCode := hideIt hcode
  have HB : Hid (∀ (q : Int), 0 < q → q ≤ 1000 → ∀ W, DS w W G a len cap → Calls Try.prog 50 #[.pointer (some ⟨G, 0, none⟩), .int .i64 q] W fun e w' => ∃ x : Nat, (x : Int) < q ∧ e = .returned (.int .i64 (x : Int)) ∧ Drawn W w' G a len cap) := fun q h0 h1 W hW => l01Below_any q h0 (by omega) W G a len cap hl hW.cur (hW.code hcode)
  have HO : Hid (∀ W, DS w W G a len cap → Calls Try.prog 27 #[.pointer (some ⟨G, 0, none⟩), .int .i64 30] W fun e w' => ∃ b : Bool, e = .returned (.bool b) ∧ Drawn W w' G a len cap) := fun W hW => l01Once_any 30 (by omega) (by omega) W G a len cap hl hW.cur (hW.code hcode)
  have HP : Hid (∀ (W : World) (zs : List Int), 0 < zs.length → zs.length ≤ 1000 → DS w W G a len cap → Calls Try.prog 51 #[.pointer (some ⟨G, 0, none⟩), .slice (some ⟨W.heap.size, 0, none⟩) zs.length zs.length] (W.alloc (.cells (zs.map (Value.int .i64)).toArray 3)) fun e w' => ∃ x : Int, e = .returned (.int .i64 x) ∧ Drawn (W.alloc (.cells (zs.map (Value.int .i64)).toArray 3)) w' G a len cap) := fun W zs h0 h1 hW => by
    have hW2 := hW.alloc (.cells (zs.map (Value.int .i64)).toArray 3)
    have hz := hW.size
    exact l01PickInt_any W.heap.size zs.length zs.length h0 h1 _ G a len cap hl hW2.cur (hW2.code HCode.out) (by simp) (by omega) (ints_new W zs 3)
  have D0 : DS w (w.alloc (.cells #[.int .i64 0, .slice none 0 0] 26)) G a len cap := (DS.start hcur).alloc _
  have R0 : Box2 (w.alloc (.cells #[.int .i64 0, .slice none 0 0] 26)) w.heap.size 26 (.int .i64 0) (.slice none 0 0) := Box2.new w _ _ _ _ rfl
  have HG0 := hideIt (l05Graph_any _ G a len cap hl D0.cur (D0.code hcode))
  clear hcur hcode
  go_enter Try.func24, Try.ntmps24
  go_wp2_with (go_at_call 49; refine HG0.out.mono ?_; rintro x w1 ⟨nn, es, a1, m, c1, hR, rfl, ho1, hd1⟩; refine Hid.out ?_)
  refine (show ∀ {p : Prop}, p → Hid p from fun h => h) ?_
  have hm : es.length = m := by have := ho1.1; rw [ecells_length] at this; omega
  have hm16 : m ≤ 16 := by have := hR.out.len; omega
  have D1 := D0.drawn hd1
  have R1 : Box2 w1 w.heap.size 26 (.int .i64 0) (.slice none 0 0) := blk_drawn R0 hd1 (by omega)
  have z1 := R1.lt
  have S2 : AGS w G a len cap w1.heap.size (nn : Int) es a1 m c1 (w1.alloc (.cells #[.int .i64 (nn : Int), .slice a1 m c1] 26)) := ⟨D1.alloc _, R1.alloc _, Box2.new _ _ _ _ _ rfl, own_mono (ho1.alloc _) (by simp), z1, hGl⟩
  generalize (nn : Int) = N at *
  obtain ⟨W2, hW2⟩ : ∃ W2, W2 = w1.alloc (.cells #[.int .i64 N, .slice a1 m c1] 26) := ⟨_, rfl⟩
  rw [← hW2] at S2
  go_upto_region 2 with fail
  rw [← hW2]
  clear hW2 D0 R0 HG0 hR ho1 hd1 D1 R1
  generalize w1.heap.size = X at *
  have B2 := hideIt (HB.out 20 (by omega) (by omega) _ S2.d)
  have HS2 := hideIt S2
  clear S2
  go_wp2_with (go_at_call 50; refine B2.out.mono ?_; rintro e w3 ⟨k, _, rfl, hd3⟩; refine Hid.out ?_)
  refine (show ∀ {p : Prop}, p → Hid p from fun h => h) ?_
  have HS := hideIt (HS2.out.drawn hd3)
  clear HS2 B2 hd3
  by_cases h0 : k = 0
  · subst h0
    have P1 := hideIt (HP.out _ [-1, 0, 1, 2, 12, 13] (by simp) (by simp) HS.out.d)
    simp only [List.map_cons, List.map_nil, List.length_cons, List.length_nil, Nat.zero_add, Nat.reduceAdd] at P1
    go_wp2_with (go_at_call 51; refine P1.out.mono ?_; rintro e w5 ⟨x, rfl, hd5⟩; refine Hid.out ?_)
    refine (show ∀ {p : Prop}, p → Hid p from fun h => h) ?_
    have S5 := (HS.out.alloc _).drawn hd5
    have S6 := hideIt (S5.setN x)
    have c0 := S5.g.cell0
    have cf := S5.g.frozen 0
    have cl := S5.g.lt
    clear S5 hd5 P1 HS
    obtain ⟨W6, hW6⟩ : ∃ W6, W6 = w5.setCell ⟨X, 0, none⟩ (.int .i64 x) := ⟨_, rfl⟩
    rw [← hW6] at S6
    go_upto_region 17 with fail
    rw [← hW6]
    clear hW6 c0 cf cl
    obtain ⟨r0, r1⟩ := And.intro S6.out.r.cell0 S6.out.r.cell1
    have r2 := S6.out.r.frozen 0
    have r3 := S6.out.r.frozen 1
    have g0 := S6.out.g.cell0
    have g1 := S6.out.g.cell1
    have gl := S6.out.g.lt
    have HF := hideIt S6.out.fin
    clear S6
    go_wp2
    exact bodyPost_ret (v := .agg #[.int .i64 x, .slice a1 m c1]) (by simp [results, Try.results24, go_sem, r0, r1]) rfl ⟨_, _, _, _, _, by omega, rfl, HF.out.1, HF.out.2.fin HCode.out⟩
  · have n0 : ((k : Int) == 0) = false := by simpa using (show ¬ (k : Int) = 0 by omega)
    clear h0
    by_cases h1 : k = 1
    · subst h1
      have HSd := hideIt HS.out.drew
      have k0 := HSd.out.g.cell0
      have k1 := HSd.out.g.cell1
      have HAE := hideIt (l05AnyEdgeG N es a1 m c1 (by omega) (w.heap.size + 1) w3.drew G a len cap hl HSd.out.d.cur (HSd.out.d.code HCode.out) HSd.out.own (by omega))
      go_upto_region 6 with fail
      refine wp_region_any (by kernel_rfl) ?_
      change wpAny _ _ _ _ _ _ _ (World.drew _)
      refine takeOp (i := 0) (v := ?_) rfl (by kernel_rfl) (by kernel_rfl) (by kernel_rfl) (fun _ _ _ h => h) (by kernel_rfl) ?_ ?_
      rotate_left
      · intro w; go_simp; try with_reducible rfl
      try simp only [Act.put, List.getElem_toArray, List.getElem_cons_zero, List.setIfInBounds_toArray, List.set_cons_zero, List.set_cons_succ]
      refine takeOp (i := 2) (v := ?_) rfl (by kernel_rfl) (by kernel_rfl) (by kernel_rfl) (fun _ _ _ h => h) (by kernel_rfl) ?_ ?_
      rotate_left
      · intro w; go_simp; try with_reducible rfl
      try simp only [Act.put, List.getElem_toArray, List.getElem_cons_succ, List.getElem_cons_zero, List.setIfInBounds_toArray, List.set_cons_zero, List.set_cons_succ]
      refine wpAny_ready (rs := [1, 3]) (by kernel_rfl) (by simp) ?_
      refine AllReady.cons rfl (fun K hK => ?_) (AllReady.cons rfl (fun K hK => ?_) AllReady.nil)
      · go_simp
        refine hK _ _ ?_
        clear hK K
        try simp only [Act.put, List.getElem_toArray, List.getElem_cons_succ, List.getElem_cons_zero, List.setIfInBounds_toArray, List.set_cons_zero, List.set_cons_succ]
        refine wpAny_ready (rs := [3]) (by kernel_rfl) (by simp) ?_
        refine AllReady.cons rfl (fun K hK => ?_) AllReady.nil
        go_simp
        refine hK _ _ ?_
        clear hK K
        try simp only [Act.put, List.getElem_toArray, List.getElem_cons_succ, List.getElem_cons_zero, List.setIfInBounds_toArray, List.set_cons_zero, List.set_cons_succ]
        refine wpAny_ready (rs := [4]) (by kernel_rfl) (by simp) ?_
        refine AllReady.cons rfl (fun K hK => ?_) AllReady.nil
        rw [if_pos]
        rotate_left
        · kernel_rfl
        go_wp2_with (go_at_call 52; refine HAE.out.mono ?_; rintro e w5 ⟨e1, rfl, hd5⟩; refine Hid.out ?_)
        refine (show ∀ {p : Prop}, p → Hid p from fun h => h) ?_
        have S5 := hideIt (HSd.out.drawn hd5)
        have k2 := S5.out.g.cell1
        have k3 := (S5.out.alloc (.cells #[.int .i64 e1.1, .int .i64 e1.2] 59)).g.cell1
        clear hd5 HAE k0
        refine hK _ _ ?_
        clear hK K
        try simp only [Act.put, List.getElem_toArray, List.getElem_cons_succ, List.getElem_cons_zero, List.setIfInBounds_toArray, List.set_cons_zero, List.set_cons_succ]
        refine wpAny_ready (rs := [5]) (by kernel_rfl) (by simp) ?_
        refine AllReady.cons rfl (fun K hK => ?_) AllReady.nil
        go_simp
        refine hK _ _ ?_
        clear hK K
        try simp only [Act.put, List.getElem_toArray, List.getElem_cons_succ, List.getElem_cons_zero, List.setIfInBounds_toArray, List.set_cons_zero, List.set_cons_succ]
        refine wpAny_ready (rs := [6]) (by kernel_rfl) (by simp) ?_
        refine AllReady.cons rfl (fun K hK => ?_) AllReady.nil
        have HOw := hideIt (S5.out.alloc (.cells #[.int .i64 e1.1, .int .i64 e1.2] 59)).own
        have HNw := hideIt (news1 w5 e1)
        refine step_append_lies _ rfl _ _ 24 rfl (w.heap.size + 1) 59 i0 _ 2 16 Try.underlying24 hi hz0 hz1 hz2 rfl (by decide) _ m _ rfl HOw.out ⟨w5.heap.size, 0, none⟩ 1 1 [.int .i64 e1.1, .int .i64 e1.2] rfl rfl HNw.out (by intro u hu; simp at hu; rcases hu with rfl | rfl <;> rfl) (by omega) (by unfold maxLen; omega) (by omega) (by have := S5.out.g.lt; have := S5.out.hX; simp; omega) (w5.heap.size + 1) (by simp) ?_
        intro g6 c6 w6 ho6 hg6 _ _
        have hx6 := (S5.out.alloc (.cells #[.int .i64 e1.1, .int .i64 e1.2] 59)).row hg6
        have S7 := hideIt ((S5.out.alloc (.cells #[.int .i64 e1.1, .int .i64 e1.2] 59)).app (es2 := es ++ [e1]) hg6 (by rw [ecells_snoc]; exact ho6))
        have u1 := hx6.2.2.cell1
        have uf := hx6.2.2.frozen 1
        clear ho6 hg6 HOw HNw S5 k2 k3 hx6
        refine hK _ _ ?_
        clear hK K
        try simp only [Act.put, List.getElem_toArray, List.getElem_cons_succ, List.getElem_cons_zero, List.setIfInBounds_toArray, List.set_cons_zero, List.set_cons_succ]
        refine wpAny_ready (rs := [7]) (by kernel_rfl) (by simp) ?_
        refine AllReady.cons rfl (fun K hK => ?_) AllReady.nil
        go_simp
        refine hK _ _ ?_
        clear hK K
        try simp only [Act.put, List.getElem_toArray, List.getElem_cons_succ, List.getElem_cons_zero, List.setIfInBounds_toArray, List.set_cons_zero, List.set_cons_succ]
        refine wpAny_ready (rs := [8]) (by kernel_rfl) (by simp) ?_
        refine AllReady.cons rfl (fun K hK => ?_) AllReady.nil
        go_simp
        refine hK _ _ ?_
        clear hK K
        try simp only [Act.put, List.getElem_toArray, List.getElem_cons_succ, List.getElem_cons_zero, List.setIfInBounds_toArray, List.set_cons_zero, List.set_cons_succ]
        refine wpAny_done (by kernel_rfl) ?_ _
        clear u1 uf k1
        obtain ⟨r0, r1⟩ := And.intro S7.out.r.cell0 S7.out.r.cell1
        have r2 := S7.out.r.frozen 0
        have r3 := S7.out.r.frozen 1
        have g0 := S7.out.g.cell0
        have g1 := S7.out.g.cell1
        have gl := S7.out.g.lt
        have HF := hideIt S7.out.fin
        clear S7
        go_wp2
        exact bodyPost_ret (v := .agg #[.int .i64 N, .slice (some ⟨g6, 0, none⟩) (m + 1) c6]) (by simp [results, Try.results24, go_sem, r0, r1]) rfl ⟨_, _, _, _, _, by omega, rfl, HF.out.1, HF.out.2.fin HCode.out⟩
      · go_simp
        refine hK _ _ ?_
        clear hK K
        try simp only [Act.put, List.getElem_toArray, List.getElem_cons_succ, List.getElem_cons_zero, List.setIfInBounds_toArray, List.set_cons_zero, List.set_cons_succ]
        refine wpAny_ready (rs := [1, 4]) (by kernel_rfl) (by simp) ?_
        refine AllReady.cons rfl (fun K hK => ?_) (AllReady.cons rfl (fun K hK => ?_) AllReady.nil)
        · go_simp
          refine hK _ _ ?_
          clear hK K
          try simp only [Act.put, List.getElem_toArray, List.getElem_cons_succ, List.getElem_cons_zero, List.setIfInBounds_toArray, List.set_cons_zero, List.set_cons_succ]
          refine wpAny_ready (rs := [4]) (by kernel_rfl) (by simp) ?_
          refine AllReady.cons rfl (fun K hK => ?_) AllReady.nil
          rw [if_pos]
          rotate_left
          · kernel_rfl
          go_wp2_with (go_at_call 52; refine HAE.out.mono ?_; rintro e w5 ⟨e1, rfl, hd5⟩; refine Hid.out ?_)
          refine (show ∀ {p : Prop}, p → Hid p from fun h => h) ?_
          have S5 := hideIt (HSd.out.drawn hd5)
          have k2 := S5.out.g.cell1
          have k3 := (S5.out.alloc (.cells #[.int .i64 e1.1, .int .i64 e1.2] 59)).g.cell1
          clear hd5 HAE k0
          refine hK _ _ ?_
          clear hK K
          try simp only [Act.put, List.getElem_toArray, List.getElem_cons_succ, List.getElem_cons_zero, List.setIfInBounds_toArray, List.set_cons_zero, List.set_cons_succ]
          refine wpAny_ready (rs := [5]) (by kernel_rfl) (by simp) ?_
          refine AllReady.cons rfl (fun K hK => ?_) AllReady.nil
          go_simp
          refine hK _ _ ?_
          clear hK K
          try simp only [Act.put, List.getElem_toArray, List.getElem_cons_succ, List.getElem_cons_zero, List.setIfInBounds_toArray, List.set_cons_zero, List.set_cons_succ]
          refine wpAny_ready (rs := [6]) (by kernel_rfl) (by simp) ?_
          refine AllReady.cons rfl (fun K hK => ?_) AllReady.nil
          have HOw := hideIt (S5.out.alloc (.cells #[.int .i64 e1.1, .int .i64 e1.2] 59)).own
          have HNw := hideIt (news1 w5 e1)
          refine step_append_lies _ rfl _ _ 24 rfl (w.heap.size + 1) 59 i0 _ 2 16 Try.underlying24 hi hz0 hz1 hz2 rfl (by decide) _ m _ rfl HOw.out ⟨w5.heap.size, 0, none⟩ 1 1 [.int .i64 e1.1, .int .i64 e1.2] rfl rfl HNw.out (by intro u hu; simp at hu; rcases hu with rfl | rfl <;> rfl) (by omega) (by unfold maxLen; omega) (by omega) (by have := S5.out.g.lt; have := S5.out.hX; simp; omega) (w5.heap.size + 1) (by simp) ?_
          intro g6 c6 w6 ho6 hg6 _ _
          have hx6 := (S5.out.alloc (.cells #[.int .i64 e1.1, .int .i64 e1.2] 59)).row hg6
          have S7 := hideIt ((S5.out.alloc (.cells #[.int .i64 e1.1, .int .i64 e1.2] 59)).app (es2 := es ++ [e1]) hg6 (by rw [ecells_snoc]; exact ho6))
          have u1 := hx6.2.2.cell1
          have uf := hx6.2.2.frozen 1
          clear ho6 hg6 HOw HNw S5 k2 k3 hx6
          refine hK _ _ ?_
          clear hK K
          try simp only [Act.put, List.getElem_toArray, List.getElem_cons_succ, List.getElem_cons_zero, List.setIfInBounds_toArray, List.set_cons_zero, List.set_cons_succ]
          refine wpAny_ready (rs := [7]) (by kernel_rfl) (by simp) ?_
          refine AllReady.cons rfl (fun K hK => ?_) AllReady.nil
          go_simp
          refine hK _ _ ?_
          clear hK K
          try simp only [Act.put, List.getElem_toArray, List.getElem_cons_succ, List.getElem_cons_zero, List.setIfInBounds_toArray, List.set_cons_zero, List.set_cons_succ]
          refine wpAny_ready (rs := [8]) (by kernel_rfl) (by simp) ?_
          refine AllReady.cons rfl (fun K hK => ?_) AllReady.nil
          go_simp
          refine hK _ _ ?_
          clear hK K
          try simp only [Act.put, List.getElem_toArray, List.getElem_cons_succ, List.getElem_cons_zero, List.setIfInBounds_toArray, List.set_cons_zero, List.set_cons_succ]
          refine wpAny_done (by kernel_rfl) ?_ _
          clear u1 uf k1
          obtain ⟨r0, r1⟩ := And.intro S7.out.r.cell0 S7.out.r.cell1
          have r2 := S7.out.r.frozen 0
          have r3 := S7.out.r.frozen 1
          have g0 := S7.out.g.cell0
          have g1 := S7.out.g.cell1
          have gl := S7.out.g.lt
          have HF := hideIt S7.out.fin
          clear S7
          go_wp2
          exact bodyPost_ret (v := .agg #[.int .i64 N, .slice (some ⟨g6, 0, none⟩) (m + 1) c6]) (by simp [results, Try.results24, go_sem, r0, r1]) rfl ⟨_, _, _, _, _, by omega, rfl, HF.out.1, HF.out.2.fin HCode.out⟩
        · rw [if_pos]
          rotate_left
          · kernel_rfl
          go_wp2_with (go_at_call 52; refine HAE.out.mono ?_; rintro e w5 ⟨e1, rfl, hd5⟩; refine Hid.out ?_)
          refine (show ∀ {p : Prop}, p → Hid p from fun h => h) ?_
          have S5 := hideIt (HSd.out.drawn hd5)
          have k2 := S5.out.g.cell1
          have k3 := (S5.out.alloc (.cells #[.int .i64 e1.1, .int .i64 e1.2] 59)).g.cell1
          clear hd5 HAE k0
          refine hK _ _ ?_
          clear hK K
          try simp only [Act.put, List.getElem_toArray, List.getElem_cons_succ, List.getElem_cons_zero, List.setIfInBounds_toArray, List.set_cons_zero, List.set_cons_succ]
          refine wpAny_ready (rs := [1, 5]) (by kernel_rfl) (by simp) ?_
          refine AllReady.cons rfl (fun K hK => ?_) (AllReady.cons rfl (fun K hK => ?_) AllReady.nil)
          · go_simp
            refine hK _ _ ?_
            clear hK K
            try simp only [Act.put, List.getElem_toArray, List.getElem_cons_succ, List.getElem_cons_zero, List.setIfInBounds_toArray, List.set_cons_zero, List.set_cons_succ]
            refine wpAny_ready (rs := [5]) (by kernel_rfl) (by simp) ?_
            refine AllReady.cons rfl (fun K hK => ?_) AllReady.nil
            go_simp
            refine hK _ _ ?_
            clear hK K
            try simp only [Act.put, List.getElem_toArray, List.getElem_cons_succ, List.getElem_cons_zero, List.setIfInBounds_toArray, List.set_cons_zero, List.set_cons_succ]
            refine wpAny_ready (rs := [6]) (by kernel_rfl) (by simp) ?_
            refine AllReady.cons rfl (fun K hK => ?_) AllReady.nil
            have HOw := hideIt (S5.out.alloc (.cells #[.int .i64 e1.1, .int .i64 e1.2] 59)).own
            have HNw := hideIt (news1 w5 e1)
            refine step_append_lies _ rfl _ _ 24 rfl (w.heap.size + 1) 59 i0 _ 2 16 Try.underlying24 hi hz0 hz1 hz2 rfl (by decide) _ m _ rfl HOw.out ⟨w5.heap.size, 0, none⟩ 1 1 [.int .i64 e1.1, .int .i64 e1.2] rfl rfl HNw.out (by intro u hu; simp at hu; rcases hu with rfl | rfl <;> rfl) (by omega) (by unfold maxLen; omega) (by omega) (by have := S5.out.g.lt; have := S5.out.hX; simp; omega) (w5.heap.size + 1) (by simp) ?_
            intro g6 c6 w6 ho6 hg6 _ _
            have hx6 := (S5.out.alloc (.cells #[.int .i64 e1.1, .int .i64 e1.2] 59)).row hg6
            have S7 := hideIt ((S5.out.alloc (.cells #[.int .i64 e1.1, .int .i64 e1.2] 59)).app (es2 := es ++ [e1]) hg6 (by rw [ecells_snoc]; exact ho6))
            have u1 := hx6.2.2.cell1
            have uf := hx6.2.2.frozen 1
            clear ho6 hg6 HOw HNw S5 k2 k3 hx6
            refine hK _ _ ?_
            clear hK K
            try simp only [Act.put, List.getElem_toArray, List.getElem_cons_succ, List.getElem_cons_zero, List.setIfInBounds_toArray, List.set_cons_zero, List.set_cons_succ]
            refine wpAny_ready (rs := [7]) (by kernel_rfl) (by simp) ?_
            refine AllReady.cons rfl (fun K hK => ?_) AllReady.nil
            go_simp
            refine hK _ _ ?_
            clear hK K
            try simp only [Act.put, List.getElem_toArray, List.getElem_cons_succ, List.getElem_cons_zero, List.setIfInBounds_toArray, List.set_cons_zero, List.set_cons_succ]
            refine wpAny_ready (rs := [8]) (by kernel_rfl) (by simp) ?_
            refine AllReady.cons rfl (fun K hK => ?_) AllReady.nil
            go_simp
            refine hK _ _ ?_
            clear hK K
            try simp only [Act.put, List.getElem_toArray, List.getElem_cons_succ, List.getElem_cons_zero, List.setIfInBounds_toArray, List.set_cons_zero, List.set_cons_succ]
            refine wpAny_done (by kernel_rfl) ?_ _
            clear u1 uf k1
            obtain ⟨r0, r1⟩ := And.intro S7.out.r.cell0 S7.out.r.cell1
            have r2 := S7.out.r.frozen 0
            have r3 := S7.out.r.frozen 1
            have g0 := S7.out.g.cell0
            have g1 := S7.out.g.cell1
            have gl := S7.out.g.lt
            have HF := hideIt S7.out.fin
            clear S7
            go_wp2
            exact bodyPost_ret (v := .agg #[.int .i64 N, .slice (some ⟨g6, 0, none⟩) (m + 1) c6]) (by simp [results, Try.results24, go_sem, r0, r1]) rfl ⟨_, _, _, _, _, by omega, rfl, HF.out.1, HF.out.2.fin HCode.out⟩
          · go_simp
            refine hK _ _ ?_
            clear hK K
            try simp only [Act.put, List.getElem_toArray, List.getElem_cons_succ, List.getElem_cons_zero, List.setIfInBounds_toArray, List.set_cons_zero, List.set_cons_succ]
            refine wpAny_ready (rs := [1]) (by kernel_rfl) (by simp) ?_
            refine AllReady.cons rfl (fun K hK => ?_) AllReady.nil
            go_simp
            refine hK _ _ ?_
            clear hK K
            try simp only [Act.put, List.getElem_toArray, List.getElem_cons_succ, List.getElem_cons_zero, List.setIfInBounds_toArray, List.set_cons_zero, List.set_cons_succ]
            refine wpAny_ready (rs := [6]) (by kernel_rfl) (by simp) ?_
            refine AllReady.cons rfl (fun K hK => ?_) AllReady.nil
            have HOw := hideIt (S5.out.alloc (.cells #[.int .i64 e1.1, .int .i64 e1.2] 59)).own
            have HNw := hideIt (news1 w5 e1)
            refine step_append_lies _ rfl _ _ 24 rfl (w.heap.size + 1) 59 i0 _ 2 16 Try.underlying24 hi hz0 hz1 hz2 rfl (by decide) _ m _ rfl HOw.out ⟨w5.heap.size, 0, none⟩ 1 1 [.int .i64 e1.1, .int .i64 e1.2] rfl rfl HNw.out (by intro u hu; simp at hu; rcases hu with rfl | rfl <;> rfl) (by omega) (by unfold maxLen; omega) (by omega) (by have := S5.out.g.lt; have := S5.out.hX; simp; omega) (w5.heap.size + 1) (by simp) ?_
            intro g6 c6 w6 ho6 hg6 _ _
            have hx6 := (S5.out.alloc (.cells #[.int .i64 e1.1, .int .i64 e1.2] 59)).row hg6
            have S7 := hideIt ((S5.out.alloc (.cells #[.int .i64 e1.1, .int .i64 e1.2] 59)).app (es2 := es ++ [e1]) hg6 (by rw [ecells_snoc]; exact ho6))
            have u1 := hx6.2.2.cell1
            have uf := hx6.2.2.frozen 1
            clear ho6 hg6 HOw HNw S5 k2 k3 hx6
            refine hK _ _ ?_
            clear hK K
            try simp only [Act.put, List.getElem_toArray, List.getElem_cons_succ, List.getElem_cons_zero, List.setIfInBounds_toArray, List.set_cons_zero, List.set_cons_succ]
            refine wpAny_ready (rs := [7]) (by kernel_rfl) (by simp) ?_
            refine AllReady.cons rfl (fun K hK => ?_) AllReady.nil
            go_simp
            refine hK _ _ ?_
            clear hK K
            try simp only [Act.put, List.getElem_toArray, List.getElem_cons_succ, List.getElem_cons_zero, List.setIfInBounds_toArray, List.set_cons_zero, List.set_cons_succ]
            refine wpAny_ready (rs := [8]) (by kernel_rfl) (by simp) ?_
            refine AllReady.cons rfl (fun K hK => ?_) AllReady.nil
            go_simp
            refine hK _ _ ?_
            clear hK K
            try simp only [Act.put, List.getElem_toArray, List.getElem_cons_succ, List.getElem_cons_zero, List.setIfInBounds_toArray, List.set_cons_zero, List.set_cons_succ]
            refine wpAny_done (by kernel_rfl) ?_ _
            clear u1 uf k1
            obtain ⟨r0, r1⟩ := And.intro S7.out.r.cell0 S7.out.r.cell1
            have r2 := S7.out.r.frozen 0
            have r3 := S7.out.r.frozen 1
            have g0 := S7.out.g.cell0
            have g1 := S7.out.g.cell1
            have gl := S7.out.g.lt
            have HF := hideIt S7.out.fin
            clear S7
            go_wp2
            exact bodyPost_ret (v := .agg #[.int .i64 N, .slice (some ⟨g6, 0, none⟩) (m + 1) c6]) (by simp [results, Try.results24, go_sem, r0, r1]) rfl ⟨_, _, _, _, _, by omega, rfl, HF.out.1, HF.out.2.fin HCode.out⟩
    · have n1 : ((k : Int) == 1) = false := by simpa using (show ¬ (k : Int) = 1 by omega)
      clear h1
      by_cases h2 : k = 2
      · have e2 : ((k : Int) == 2) = true := by simpa using (show (k : Int) = 2 by omega)
        clear h2
        have c0 := HS.out.g.cell0
        have c1' := HS.out.g.cell1
        have cf0 := HS.out.g.frozen 0
        have cf1 := HS.out.g.frozen 1
        have cl := HS.out.g.lt
        have S8 := hideIt (HS.out.nil 12)
        clear HS
        go_wp2
        clear c0 c1' cf0 cf1 cl
        go_loopw [4] (fun i wr => ∃ (j : Nat) (gs : List EdgeV) (ag : Option Addr) (mg cg : Nat), j ≤ 12 ∧ i = .int .i64 (j : Int) ∧ mg ≤ 12 * j ∧ Hid (AGS w G a len cap X 12 gs ag mg cg wr)) (fun i _ => 12 - (intOf i).toNat)
        case atStart => exact ⟨0, [], none, 0, 0, by omega, rfl, by omega, S8⟩
        case round =>
          obtain ⟨j, gs, ag, mg, cg, hj, rfl, hmg, HT⟩ := hrel
          clear S8
          by_cases hlt : j < 12
          · have b1 : (j : Int) < 12 := by omega
            go_wp2
            have HT1 := HT
            clear HT
            obtain ⟨wo, hwo⟩ : ∃ wo, wo = wr := ⟨_, rfl⟩
            go_loopw [5] (fun i wr => ∃ (q : Nat) (hs : List EdgeV) (ah : Option Addr) (mh ch : Nat), q ≤ 12 ∧ i = .int .i64 (q : Int) ∧ mh ≤ 12 * j + q ∧ Hid (AGS w G a len cap X 12 hs ah mh ch wr)) (fun i _ => 12 - (intOf i).toNat)
            case atStart => exact ⟨j + 1, gs, ag, mg, cg, by omega, by go_num, by omega, HT1⟩
            case round =>
              obtain ⟨q, hs, ah, mh, ch, hq, rfl, hmh, HU⟩ := hrel
              clear HT1 hwo
              by_cases hlq : q < 12
              · have b2 : (q : Int) < 12 := by omega
                have HO1 := hideIt (HO.out _ HU.out.d)
                go_wp2_with (go_at_call 27; refine HO1.out.mono ?_; rintro e w5 ⟨b, rfl, hd5⟩; refine Hid.out ?_)
                refine (show ∀ {p : Prop}, p → Hid p from fun h => h) ?_
                have S5 := hideIt (HU.out.drawn hd5)
                clear HO1 hd5 HU
                cases b with
                | true =>
                  go_wp2
                  exact ⟨⟨q + 1, hs, ah, mh, ch, by omega, by go_num, by omega, S5⟩, by simp [intOf]; omega⟩
                | false =>
                  have k1 := S5.out.g.cell1
                  have kl := S5.out.g.lt
                  have S6 := hideIt (S5.out.alloc (.cells #[.int .i64 (j : Int), .int .i64 (q : Int)] 59))
                  have hzz := S5.out.hX
                  go_wp2_with (at_builtin; refine wpList_append_own _ rfl _ _ 24 rfl (w.heap.size + 1) 59 i0 _ 2 16 Try.underlying24 hi hz0 hz1 hz2 rfl (by decide) _ mh _ rfl S6.out.own ⟨w5.heap.size, 0, none⟩ 1 1 [.int .i64 (j : Int), .int .i64 (q : Int)] rfl rfl (news1 w5 ((j : Int), (q : Int))) (by intro u hu; simp at hu; rcases hu with rfl | rfl <;> rfl) (by unfold maxLen; omega) (by omega) (by simp; omega) ?_; intro v6 w6 ho6 hg6 _; refine Hid.out ?_)
                  refine (show ∀ {p : Prop}, p → Hid p from fun h => h) ?_
                  obtain ⟨a6, c6, rfl⟩ := own_form ho6
                  have hx6 := S6.out.row hg6
                  have S7 := hideIt (S6.out.app (es2 := hs ++ [((j : Int), (q : Int))]) hg6 (by rw [ecells_snoc]; exact ho6))
                  have u1 := hx6.2.2.cell1
                  have uf := hx6.2.2.frozen 1
                  clear ho6 hg6 S6 S5 k1 kl hx6
                  go_wp2
                  exact ⟨⟨q + 1, _, a6, mh + 1, c6, by omega, by go_num, by omega, S7⟩, by simp [intOf]; omega⟩
              · obtain rfl : q = 12 := by omega
                go_wp2
                exact ⟨⟨j + 1, hs, ah, mh, ch, by omega, by go_num, by omega, HU⟩, by simp [intOf]; omega⟩
          · obtain rfl : j = 12 := by omega
            obtain ⟨r0, r1⟩ := And.intro HT.out.r.cell0 HT.out.r.cell1
            have r2 := HT.out.r.frozen 0
            have r3 := HT.out.r.frozen 1
            have g0 := HT.out.g.cell0
            have g1 := HT.out.g.cell1
            have gl := HT.out.g.lt
            have HF := hideIt HT.out.fin
            clear HT
            go_wp2
            exact bodyPost_ret (v := .agg #[.int .i64 12, .slice ag mg cg]) (by simp [results, Try.results24, go_sem, r0, r1]) rfl ⟨_, _, _, _, _, by omega, rfl, HF.out.1, HF.out.2.fin HCode.out⟩
      · have n2 : ((k : Int) == 2) = false := by simpa using (show ¬ (k : Int) = 2 by omega)
        clear h2
        obtain ⟨r0, r1⟩ := And.intro HS.out.r.cell0 HS.out.r.cell1
        have r2 := HS.out.r.frozen 0
        have r3 := HS.out.r.frozen 1
        have g0 := HS.out.g.cell0
        have g1 := HS.out.g.cell1
        have gl := HS.out.g.lt
        have HF := hideIt HS.out.fin
        clear HS
        go_wp2
        exact bodyPost_ret (v := .agg #[.int .i64 N, .slice a1 m c1]) (by simp [results, Try.results24, go_sem, r0, r1]) rfl ⟨_, _, _, _, _, by omega, rfl, HF.out.1, HF.out.2.fin HCode.out⟩
end Go.Proofs.Ytobcihdjennieaa
namespace Go.Proofs.Ytobcihdjennieaa
open Go.RowKit

set_option maxRecDepth 100000 in
set_option maxHeartbeats 4000000 in
theorem sAddEdge_any (N : Int) (es : List EdgeV) (f : EdgeV) (n : Nat) (a : Option Addr) (c : Nat) (hn : n ≤ 1048576) (w : World) (h : Es w w.heap.size a n es) :
    Calls Try.prog 36 #[.agg #[.int .i64 N, .slice a n c], .agg #[.int .i64 f.1, .int .i64 f.2]] w fun e w' => GAns w N (addE N es f) e w' := by
  have hA : Hid (∀ u, In3 w N a n c f u → Es u u.heap.size a n es) := fun u hu => h.up hu.below
  have HGO : Hid (∀ u, In3 w N a n c f u → Calls Try.prog 11 #[.agg #[.int .i64 N, .slice a n c]] u fun e v => e = .returned (.bool (gB N es)) ∧ In3 w N a n c f v) := fun u hu =>
    (sGraphOk_any N es n a c hn u (hA.out u hu)).mono fun _ _ ⟨he, hb⟩ => ⟨he, hu.up hb⟩
  have HEO : Hid (∀ u, In3 w N a n c f u → Calls Try.prog 64 #[.int .i64 N, .agg #[.int .i64 f.1, .int .i64 f.2]] u fun e v => e = .returned (.bool (eB N f)) ∧ In3 w N a n c f v) := fun u hu =>
    (sEdgeOk_any N f u).mono fun _ _ ⟨he, hb⟩ => ⟨he, hu.up hb⟩
  have HHE : Hid (∀ u, In3 w N a n c f u → Calls Try.prog 65 #[.agg #[.int .i64 N, .slice a n c], .agg #[.int .i64 f.1, .int .i64 f.2]] u fun e v => e = .returned (.bool (hasB es f)) ∧ In3 w N a n c f v) := fun u hu =>
    (sHasEdge_any N es f n a c hn u (hA.out u hu)).mono fun _ _ ⟨he, hb⟩ => ⟨he, hu.up hb⟩
  have S1 := In3.start w N a n c f
  have HK : Hid (∀ u, In3 w N a n c f u → (u.cell? ⟨w.heap.size, 0, none⟩ = some (.int .i64 N) ∧ u.cell? ⟨w.heap.size, 1, none⟩ = some (.slice a n c)) ∧ (u.cell? ⟨w.heap.size + 1, 0, none⟩ = some (.int .i64 f.1) ∧ u.cell? ⟨w.heap.size + 1, 1, none⟩ = some (.int .i64 f.2))) := fun u hu => hu.cells
  cases hG : gB N es with
  | false =>
    rw [hG] at HGO
    have HO := hideIt (show addE N es f = none by unfold addE; rw [hG, if_neg (by simp)])
    clear hG HEO HHE h hA
    go_enter Try.func36, Try.ntmps36
    go_wp2_with (go_at_call 11; refine (HGO.out _ S1).mono ?_; rintro e w4 ⟨rfl, S4⟩; refine Hid.out ?_)
    refine (show ∀ {p : Prop}, p → Hid p from fun h => h) ?_
    obtain ⟨⟨r0, r1⟩, r2, r3⟩ := S4.out
    have s4 := S4.size
    go_wp2
    exact bodyPost_ret (v := .tuple #[.agg #[.int .i64 0, .slice none 0 0], .bool false]) (by simp [results, Try.results36, go_sem, r0, r1]) rfl (gans_no S4 HO.out)
  | true =>
    rw [hG] at HGO
    cases hE : eB N f with
    | false =>
      rw [hE] at HEO
      have HO := hideIt (show addE N es f = none by unfold addE; rw [hE, if_neg (by simp)])
      clear hG hE HHE h hA
      go_enter Try.func36, Try.ntmps36
      go_wp2_with (go_at_call 11; refine (HGO.out _ S1).mono ?_; rintro e w4 ⟨rfl, S4⟩; refine Hid.out ?_)
      refine (show ∀ {p : Prop}, p → Hid p from fun h => h) ?_
      obtain ⟨⟨k0, k1⟩, k2, k3⟩ := HK.out _ S4
      go_wp2_with (go_at_call 64; refine (HEO.out _ S4).mono ?_; rintro e w5 ⟨rfl, S5⟩; refine Hid.out ?_)
      refine (show ∀ {p : Prop}, p → Hid p from fun h => h) ?_
      obtain ⟨⟨r0, r1⟩, r2, r3⟩ := S5.out
      have s5 := S5.size
      clear k0 k1 k2 k3
      go_wp2
      exact bodyPost_ret (v := .tuple #[.agg #[.int .i64 0, .slice none 0 0], .bool false]) (by simp [results, Try.results36, go_sem, r0, r1]) rfl (gans_no S5 HO.out)
    | true =>
      rw [hE] at HEO
      cases hH : hasB es f with
      | true =>
        rw [hH] at HHE
        have HO := hideIt (show addE N es f = none by unfold addE; rw [hH, if_neg (by simp)])
        clear hG hE hH h hA
        go_enter Try.func36, Try.ntmps36
        go_wp2_with (go_at_call 11; refine (HGO.out _ S1).mono ?_; rintro e w4 ⟨rfl, S4⟩; refine Hid.out ?_)
        refine (show ∀ {p : Prop}, p → Hid p from fun h => h) ?_
        obtain ⟨⟨k0, k1⟩, k2, k3⟩ := HK.out _ S4
        go_wp2_with (go_at_call 64; refine (HEO.out _ S4).mono ?_; rintro e w5 ⟨rfl, S5⟩; refine Hid.out ?_)
        refine (show ∀ {p : Prop}, p → Hid p from fun h => h) ?_
        clear k0 k1 k2 k3
        obtain ⟨⟨k0, k1⟩, k2, k3⟩ := HK.out _ S5
        go_wp2_with (go_at_call 65; refine (HHE.out _ S5).mono ?_; rintro e w6 ⟨rfl, S6⟩; refine Hid.out ?_)
        refine (show ∀ {p : Prop}, p → Hid p from fun h => h) ?_
        obtain ⟨⟨r0, r1⟩, r2, r3⟩ := S6.out
        have s6 := S6.size
        clear k0 k1 k2 k3
        go_wp2
        exact bodyPost_ret (v := .tuple #[.agg #[.int .i64 0, .slice none 0 0], .bool false]) (by simp [results, Try.results36, go_sem, r0, r1]) rfl (gans_no S6 HO.out)
      | false =>
        rw [hH] at HHE
        have HO := hideIt (show addE N es f = some (putE es f) by unfold addE; rw [hG, hE, hH, if_pos (by simp)])
        have HPt : Hid (∀ u, In3 w N a n c f u → Calls Try.prog 66 #[.slice a n c, .agg #[.int .i64 f.1, .int .i64 f.2]] u fun x v => ∃ a' m' c', x = .returned (.slice a' m' c') ∧ Hid (v.ownsRow u.heap.size 59 2 (.slice a' m' c') m' (ecells (putE es f))) ∧ In3 w N a n c f v) := fun u hu =>
          (l05Put_any es f n a c hn u (hA.out u hu)).mono fun _ _ ⟨a', m', c', he, ho, hb⟩ => ⟨a', m', c', he, ho, hu.up hb⟩
        clear hG hE hH h
        go_enter Try.func36, Try.ntmps36
        go_wp2_with (go_at_call 11; refine (HGO.out _ S1).mono ?_; rintro e w4 ⟨rfl, S4⟩; refine Hid.out ?_)
        refine (show ∀ {p : Prop}, p → Hid p from fun h => h) ?_
        obtain ⟨⟨k0, k1⟩, k2, k3⟩ := HK.out _ S4
        go_wp2_with (go_at_call 64; refine (HEO.out _ S4).mono ?_; rintro e w5 ⟨rfl, S5⟩; refine Hid.out ?_)
        refine (show ∀ {p : Prop}, p → Hid p from fun h => h) ?_
        clear k0 k1 k2 k3
        obtain ⟨⟨k0, k1⟩, k2, k3⟩ := HK.out _ S5
        go_wp2_with (go_at_call 65; refine (HHE.out _ S5).mono ?_; rintro e w7 ⟨rfl, S7⟩; refine Hid.out ?_)
        refine (show ∀ {p : Prop}, p → Hid p from fun h => h) ?_
        clear k0 k1 k2 k3 S4 S5 S1 HGO HEO HHE
        have S7d := S7.drew
        have z7 := S7.size
        have HPc := hideIt (HPt.out _ S7d)
        clear HPt hA
        go_wp2
        go_region_held3 (fun u => (u.cell? ⟨w.heap.size, 0, none⟩ = some (.int .i64 N) ∧ u.cell? ⟨w.heap.size, 1, none⟩ = some (.slice a n c)) ∧ (u.cell? ⟨w.heap.size + 1, 0, none⟩ = some (.int .i64 f.1) ∧ u.cell? ⟨w.heap.size + 1, 1, none⟩ = some (.int .i64 f.2)))
          (first | exact S8.cellsSet _ _ | exact HK.out _ S8 | exact HK.out _ S7d)
          ((go_at_call 66; refine HPc.out.mono ?_; rintro e w8 ⟨a', m', c', rfl, hown8, S8⟩; obtain ⟨⟨r0, r1⟩, r2, r3⟩ := S8.out))
        all_goals
          go_wp2
          exact bodyPost_ret (v := .tuple #[.agg #[.int .i64 N, .slice a' m' c'], .bool true]) (by simp [results, Try.results36, go_sem, r0, r1]) rfl (gans_yes S8 HO.out (by show _ ≤ w7.heap.size; omega) hown8.out)
end Go.Proofs.Ytobcihdjennieaa
namespace Go.Proofs.Ytobcihdjennieaa
open Go.RowKit

theorem asc_ext : ∀ {l1 l2 : List EdgeV}, (l1.Pairwise fun d e => lt d e = true) → (l2.Pairwise fun d e => lt d e = true) → (∀ x, x ∈ l1 ↔ x ∈ l2) → l1 = l2 := by
  intro l1
  induction l1 with
  | nil =>
    intro l2 _ _ h
    cases l2 with
    | nil => rfl
    | cons y l2 => exact absurd ((h y).2 (by simp)) (by simp)
  | cons x l1 ih =>
    intro l2 h1 h2 h
    cases l2 with
    | nil => exact absurd ((h x).1 (by simp)) (by simp)
    | cons y l2 =>
      obtain ⟨a1, b1⟩ := List.pairwise_cons.1 h1
      obtain ⟨a2, b2⟩ := List.pairwise_cons.1 h2
      have ne1 : ∀ z ∈ l1, z ≠ x := fun z hz e => by subst e; have := a1 z hz; rw [lt_irrefl'] at this; cases this
      have ne2 : ∀ z ∈ l2, z ≠ y := fun z hz e => by subst e; have := a2 z hz; rw [lt_irrefl'] at this; cases this
      have hxy : x = y := by
        have hx := (h x).1 (by simp)
        have hy := (h y).2 (by simp)
        rcases List.mem_cons.1 hx with e | hx
        · exact e
        · rcases List.mem_cons.1 hy with e | hy
          · exact e.symm
          · have h3 := a2 x hx
            have h4 := a1 y hy
            rw [lt_asymm' h3] at h4
            cases h4
      subst hxy
      rw [ih b1 b2 fun z => ?_]
      constructor
      · intro hz
        rcases List.mem_cons.1 ((h z).1 (by simp [hz])) with e | hz'
        · exact absurd e (ne1 z hz)
        · exact hz'
      · intro hz
        rcases List.mem_cons.1 ((h z).2 (by simp [hz])) with e | hz'
        · exact absurd e (ne2 z hz)
        · exact hz'
theorem mem_put (es : List EdgeV) (e d : EdgeV) : d ∈ putE es e ↔ d = e ∨ (d ∈ es ∧ d ≠ e) := by
  unfold putE
  rw [List.mem_append, List.mem_append, List.mem_filter, List.mem_filter]
  simp only [List.mem_cons, List.not_mem_nil, or_false]
  constructor
  · rintro ((⟨h1, h2⟩ | h) | ⟨h1, h2⟩)
    · exact .inr ⟨h1, fun h => by subst h; rw [lt_irrefl'] at h2; cases h2⟩
    · exact .inl h
    · exact .inr ⟨h1, fun h => by subst h; rw [lt_irrefl'] at h2; cases h2⟩
  · rintro (h | ⟨h1, h2⟩)
    · exact .inl (.inr h)
    · cases h3 : lt d e with
      | true => exact .inl (.inl ⟨h1, rfl⟩)
      | false => exact .inr ⟨h1, lt_total' h3 h2⟩
theorem mem_out (es : List EdgeV) (e d : EdgeV) : d ∈ outE es e ↔ d ∈ es ∧ d ≠ e := by
  unfold outE
  rw [List.mem_filter, decide_eq_true_eq]
theorem asc_out {es : List EdgeV} {e : EdgeV} (h : Asc es) : Asc (outE es e) := asc_of_pairwise ((pairwise_asc' h).filter _)
theorem put_out {es : List EdgeV} {e : EdgeV} (h : Asc es) (he : e ∈ es) : putE (outE es e) e = es := by
  refine asc_ext (pairwise_asc' (asc_put (asc_out h))) (pairwise_asc' h) fun d => ?_
  rw [mem_put, mem_out]
  constructor
  · rintro (rfl | ⟨⟨h1, _⟩, _⟩)
    · exact he
    · exact h1
  · intro hd
    by_cases hde : d = e
    · exact .inl hde
    · exact .inr ⟨⟨hd, hde⟩, hde⟩
theorem out_put {es : List EdgeV} {e : EdgeV} (h : Asc es) (he : e ∉ es) : outE (putE es e) e = es := by
  refine asc_ext (pairwise_asc' (asc_out (asc_put h))) (pairwise_asc' h) fun d => ?_
  rw [mem_out, mem_put]
  constructor
  · rintro ⟨h1 | h1, h2⟩
    · exact absurd h1 h2
    · exact h1.1
  · intro hd
    have hde : d ≠ e := fun hh => he (hh ▸ hd)
    exact ⟨.inr ⟨hd, hde⟩, hde⟩
theorem GR.out {nn : Nat} {es : List EdgeV} {k : Nat} (h : GR nn es k) (e : EdgeV) : GR nn (outE es e) k :=
  ⟨h.n2, h.n12, chk_of (fun d hd => chk_eB h.ok ((mem_out es e d).1 hd).1) (asc_out (asc_of_chk h.ok)), Nat.le_trans (outE_length es e) h.len⟩
theorem has_put (es : List EdgeV) (e : EdgeV) : hasB (putE es e) e = true := decide_eq_true ((mem_put es e e).2 (.inl rfl))
theorem has_out (es : List EdgeV) (e : EdgeV) : hasB (outE es e) e = false := decide_eq_false fun h => ((mem_out es e e).1 h).2 rfl

theorem Sl_of_own {w : World} {B e s m c : Nat} {a : Option Addr} {xs : List Value} (h : w.ownsRow B e s (.slice a m c) m xs) : Sl a m c := by
  rcases h.2 with ⟨hv, h0⟩ | ⟨g, cap', cur, hv, _, _, h1, h2, _, _⟩
  · simp at hv
    obtain ⟨rfl, rfl, rfl⟩ := hv
    exact ⟨Nat.le_refl _, by unfold maxLen; omega, .inl ⟨rfl, rfl, rfl⟩⟩
  · simp at hv
    obtain ⟨rfl, rfl⟩ := hv
    exact ⟨h1, h2, .inr ⟨g, 0, rfl⟩⟩

set_option maxHeartbeats 1000000 in
theorem sameEdges_same (fs : List EdgeV) (n : Nat) (a a' : Option Addr) (c c' : Nat) (hn : n ≤ 1048576) (w : World) (h : Es w w.heap.size a n fs) (h' : Es w w.heap.size a' n fs) :
    Calls Try.prog 10 #[.slice a n c, .slice a' n c'] w fun e w' => e = .returned (.bool true) ∧ Below w.heap.size w w' := by
  obtain ⟨hlen, hrow⟩ := h
  obtain ⟨_, hrow'⟩ := h'
  have HR := hideIt hrow
  have HR' := hideIt hrow'
  clear hrow hrow'
  have dn : ((n : Int) != (n : Int)) = false := by simp
  go_enter Try.func10, Try.ntmps10
  go_wp2
  go_loopw [5] (fun i wr => ∃ k : Nat, k ≤ n ∧ i = .int .i64 (k : Int) ∧ Below w.heap.size w wr) (fun i _ => n - (intOf i).toNat)
  case atStart => exact ⟨0, by omega, rfl, Below.refl _ _⟩
  case round =>
    obtain ⟨k, hk, rfl, hb⟩ := hrel
    by_cases hlt : k < n
    · rcases HR.out with hz | ⟨b, off, rfl, hbl, hc⟩
      · omega
      · rcases HR'.out with hz | ⟨b', off', rfl, hbl', hc'⟩
        · omega
        · obtain ⟨f, hf⟩ : ∃ f, fs[k]? = some f := ⟨fs[k]'(by omega), List.getElem?_eq_getElem (by omega)⟩
          obtain ⟨c0, c1⟩ := hc k f hf
          obtain ⟨d0, d1⟩ := hc' k f hf
          have e0 : wr.cell? ⟨b, off + k * 2, none⟩ = some (.int .i64 f.1) := by rw [hb.cell hbl]; exact c0
          have e1 : wr.cell? ⟨b, off + k * 2 + 1, none⟩ = some (.int .i64 f.2) := by rw [hb.cell hbl]; exact c1
          have e3 : wr.cell? ⟨b', off' + k * 2, none⟩ = some (.int .i64 f.1) := by rw [hb.cell hbl']; exact d0
          have e4 : wr.cell? ⟨b', off' + k * 2 + 1, none⟩ = some (.int .i64 f.2) := by rw [hb.cell hbl']; exact d1
          have b1 : (0 : Int) ≤ (k : Int) := by omega
          have b2 : (k : Int) < (n : Int) := by omega
          clear c0 c1 d0 d1 hc hc' hf
          go_wp2
          go_quiet (fail)
          go_wp2
          exact ⟨⟨k + 1, by omega, by go_num, below_drewN hb _⟩, by simp [intOf]; omega⟩
    · go_wp2
      go_ret
      exact ⟨rfl, hb⟩

/-- a graph in a box, below -/
structure BG (u : World) (X : Nat) (M : Int) (a : Option Addr) (m c : Nat) (es : List EdgeV) : Prop where
  c0 : u.cell? ⟨X, 0, none⟩ = some (.int .i64 M)
  c1 : u.cell? ⟨X, 1, none⟩ = some (.slice a m c)
  row : Es u u.heap.size a m es
  sl : Sl a m c
  lt : X < u.heap.size
theorem BG.up {u v : World} {X : Nat} {M : Int} {a : Option Addr} {m c : Nat} {es : List EdgeV} (h : BG u X M a m c es) (hb : Below u.heap.size u v) : BG v X M a m c es :=
  ⟨by rw [hb.cell h.lt]; exact h.c0, by rw [hb.cell h.lt]; exact h.c1, h.row.up hb, h.sl, Nat.lt_of_lt_of_le h.lt hb.size⟩
theorem BG.laid {u : World} {B : Nat} {M : Int} {a : Option Addr} {m c : Nat} {es : List EdgeV} (ho : u.ownsRow B 59 2 (.slice a m c) m (ecells es)) : BG (u.alloc (.cells #[.int .i64 M, .slice a m c] 26)) u.heap.size M a m c es :=
  ⟨by simp, by simp, (Es_of_own ho).up ((Below.refl _ _).alloc (Nat.le_refl _) _), Sl_of_own ho, by simp⟩
end Go.Proofs.Ytobcihdjennieaa
