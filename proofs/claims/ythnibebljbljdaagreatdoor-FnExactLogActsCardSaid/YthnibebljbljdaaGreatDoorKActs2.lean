/- A list of files that comes in, as the walks want it. What the laws' own functions over acts answer. Lists of acts: how they stand in memory. Plain mathematics on numerals: no program is named here. What the laws' own mark of a number is. Lists of acts: szActS, toActS, eqActS, markActS. -/
import Derived.Test.YthnibebljbljdaaGreatDoorKFiles
import Derived.WalkKit
import Derived.ProofKit
import Derived.OpenShut
import Derived.ChangeOld
import Derived.ChangeArms
import Derived.Below
import Derived.Test.YthnibebljbljdaaGreatDoorKSAct7
import Derived.Lib.ItoaLen
import Derived.Test.YthnibebljbljdaaGreatDoorKMem
import Derived.WalkSpells
import Derived.WalkSmall
import Derived.BigQuiet
import Derived.Deep.QuietTactic
import Derived.Laws.Concat
namespace Go.Proofs.YthnibebljbljdaaGreatDoor.F
open Go.ChangeShapes Go.WideShapes Go.ChangeAt Go.RowKit

theorem cellsLF : Tryz.prog.cellsOf 123 = 3 := by kernel_rfl
theorem cells9 : Tryz.prog.cellsOf 9 = 1 := by kernel_rfl
theorem cells3 : Tryz.prog.cellsOf 3 = 1 := by kernel_rfl

/-- a file as the machine bears it -/
def FitF (f : FileV) : Prop := f.name.size ≤ maxLen ∧ f.text.size ≤ maxLen ∧ (Lit.int .i64 f.kept).wf = true

theorem three {α : Type} {l : List α} (h : l.length = 3) : ∃ a b c, l = [a, b, c] := by
  cases l with
  | nil => simp at h
  | cons a l =>
    cases l with
    | nil => simp at h
    | cons b l =>
      cases l with
      | nil => simp at h
      | cons c l =>
        cases l with
        | nil => exact ⟨a, b, c, rfl⟩
        | cons d l => simp at h

theorem open_file {H : Type} {enc : TypeId × Value → H} {W : World} {fuel : Nat} {cs : List Value} {y : DataW H × List MemPlace}
    (h : DataW.trod enc Tryz.prog W 0 (fun _ => true) true fuel 123 cs = some y) : ∃ f : FileV, cs = [.string f.name, .string f.text, .int .i64 f.kept] ∧ FitF f := by
  obtain ⟨xs, n, _, _, hl, hlen, hf⟩ := DataW.trod_struct Tryz.underlying123 h
  rw [cellsLF] at hl
  obtain ⟨c0, c1, c2, rfl⟩ := three hl
  have h0 : DataW.trod enc Tryz.prog W 0 (fun _ => true) true n 9 (([c0, c1, c2].drop 0).take (Tryz.prog.cellsOf 9)) = xs[0]? := hf 0 _ rfl
  have h1 : DataW.trod enc Tryz.prog W 0 (fun _ => true) true n 9 (([c0, c1, c2].drop 1).take (Tryz.prog.cellsOf 9)) = xs[1]? := hf 1 _ rfl
  have h2 : DataW.trod enc Tryz.prog W 0 (fun _ => true) true n 3 (([c0, c1, c2].drop 2).take (Tryz.prog.cellsOf 3)) = xs[2]? := hf 2 _ rfl
  rw [cells9] at h0 h1
  rw [cells3] at h2
  have g : ∀ i, i < 3 → ∃ z, xs[i]? = some z := fun i hi => ⟨xs[i]'(by simp at hlen; omega), List.getElem?_eq_getElem _⟩
  obtain ⟨z0, e0⟩ := g 0 (by omega)
  obtain ⟨z1, e1⟩ := g 1 (by omega)
  obtain ⟨z2, e2⟩ := g 2 (by omega)
  rw [e0] at h0
  rw [e1] at h1
  rw [e2] at h2
  obtain ⟨s0, hs0, _, w0⟩ := DataW.trod_string Tryz.underlying9 h0
  obtain ⟨s1, hs1, _, w1⟩ := DataW.trod_string Tryz.underlying9 h1
  obtain ⟨k, hk, _, w2⟩ := DataW.trod_int Tryz.underlying3 h2
  simp at hs0 hs1 hk
  subst hs0 hs1 hk
  exact ⟨⟨s0, s1, k⟩, rfl, w0, w1, w2⟩

theorem open_files {H : Type} {enc : TypeId × Value → H} {W : World} {a : Option Addr} {len cap fuel : Nat} {x : DataW H × List MemPlace}
    (h : DataW.trod enc Tryz.prog W 0 (fun _ => true) true fuel 28 [.slice a len cap] = some x) : len ≤ maxLen ∧ ∃ fs : List FileV, Fs W W.heap.size a len fs ∧ ∀ f ∈ fs, FitF f := by
  rcases DataW.trod_slice Tryz.underlying28 h with ⟨hcs, _⟩ | ⟨ad, l, c, elems, rest, n, _, hcs, _, _, hlc, hm, hel, hei, _, _⟩
  · simp at hcs
    obtain ⟨rfl, rfl, rfl⟩ := hcs
    exact ⟨by unfold maxLen; omega, [], ⟨rfl, .inl rfl⟩, by simp⟩
  · simp at hcs
    obtain ⟨rfl, rfl, rfl⟩ := hcs
    refine ⟨by omega, ?_⟩
    have each : ∀ i, i < len → ∃ f : FileV, (W.cell? ((ad.add (i * 3)).add 0) = some (.string f.name) ∧ W.cell? ((ad.add (i * 3)).add 1) = some (.string f.text) ∧ W.cell? ((ad.add (i * 3)).add 2) = some (.int .i64 f.kept)) ∧ FitF f := by
      intro i hi
      have h1 := hei i hi
      obtain ⟨y, hy⟩ : ∃ y, elems[i]? = some y := ⟨elems[i]'(by omega), List.getElem?_eq_getElem _⟩
      rw [hy, Option.bind_eq_some_iff] at h1
      obtain ⟨cs', hc, ht⟩ := h1
      obtain ⟨f, rfl, hfit⟩ := open_file ht
      rw [cellsLF] at hc
      have hcell := (World.cells?_some hc).2.2
      refine ⟨f, ⟨?_, ?_, ?_⟩, hfit⟩
      · simpa using hcell 0 (by omega)
      · simpa using hcell 1 (by omega)
      · simpa using hcell 2 (by omega)
    by_cases h0 : len = 0
    · subst h0
      exact ⟨[], ⟨rfl, .inl rfl⟩, by simp⟩
    · obtain ⟨f0, ⟨hc0, _, _⟩, _⟩ := each 0 (by omega)
      obtain ⟨b, off, spot⟩ := ad
      have hspot : spot = none := by simpa [Addr.add] using World.cell?_spot hc0
      subst hspot
      have hb : b < W.heap.size := by
        have := World.block_lt_of_cell? W _ hc0
        simpa [Addr.add] using this
      obtain ⟨F, hF⟩ := Classical.axiomOfChoice (fun i : Fin len => each i.1 i.2)
      refine ⟨List.ofFn F, ⟨by simp, .inr ⟨b, off, rfl, hb, fun j f hf => ?_⟩⟩, fun f hf => ?_⟩
      · obtain ⟨hj, rfl⟩ := List.getElem?_eq_some_iff.1 hf
        have hj' : j < len := by simpa using hj
        obtain ⟨⟨c0, c1, c2⟩, _⟩ := hF ⟨j, hj'⟩
        rw [add_plain, add_plain] at c0 c1 c2
        simp only [List.getElem_ofFn]
        exact ⟨c0, c1, c2⟩
      · obtain ⟨i, rfl⟩ := List.mem_ofFn.1 hf
        exact (hF i).2

set_option maxRecDepth 100000 in
/-- a disk that comes in -/
theorem open_disk {H : Type} {enc : TypeId × Value → H} {W : World} {r : Reach} {base : Nat} {v : Value} {d : DataW H} {p : List MemPlace}
    (hv : Value.okWide Tryz.prog W r base 30 v) (h : DataW.Trod enc Tryz.prog W 0 (fun _ => true) true 30 v d p) :
    ∃ (a : Option Addr) (n c : Nat) (fs : List FileV), v = .agg #[.slice a n c] ∧ n ≤ maxLen ∧ Fs W W.heap.size a n fs ∧ ∀ f ∈ fs, FitF f := by
  obtain ⟨cs, rfl, hcs⟩ := okWide_struct Tryz.underlying30 hv
  obtain ⟨fuel, hf⟩ := h
  obtain ⟨y0, n, _, hl, ht⟩ := trod_struct1 Tryz.underlying30 hf
  have ht' : DataW.trod enc Tryz.prog W 0 (fun _ => true) true n 28 (((Value.agg cs).cells.toList.drop 0).take (Tryz.prog.cellsOf 28)) = some y0 := ht
  rw [show Tryz.prog.cellsOf 28 = 1 by kernel_rfl] at ht'
  rw [show Tryz.prog.cellsOf 30 = 1 by kernel_rfl] at hcs
  obtain ⟨x, rfl⟩ : ∃ x, cs = #[x] := by
    obtain ⟨l⟩ := cs
    cases l with
    | nil => simp at hcs
    | cons x l =>
      cases l with
      | nil => exact ⟨x, rfl⟩
      | cons y l => simp at hcs
  simp [Value.cells] at ht'
  rcases DataW.trod_slice Tryz.underlying28 ht' with ⟨hx, _⟩ | ⟨ad, l, c, _, _, _, _, hx, _⟩
  · simp at hx
    subst hx
    obtain ⟨h1, fs, h2, h3⟩ := open_files ht'
    exact ⟨_, _, _, fs, rfl, h1, h2, h3⟩
  · simp at hx
    subst hx
    obtain ⟨h1, fs, h2, h3⟩ := open_files ht'
    exact ⟨_, _, _, fs, rfl, h1, h2, h3⟩
end Go.Proofs.YthnibebljbljdaaGreatDoor.F
namespace Go.Proofs.YthnibebljbljdaaGreatDoor.F
open Go.RowKit

/-- what is left of a measure behind an act -/
def szA (left : Int) (x : ActV) : Int := if (x.name.size : Int) + x.text.size + x.to.size ≤ left then left - x.name.size - x.text.size - x.to.size else -1
theorem szA_no (left : Int) (x : ActV) (h : ¬ (x.name.size : Int) + x.text.size + x.to.size ≤ left) : szA left x = -1 := by unfold szA; rw [if_neg h]
theorem szA_yes (left : Int) (x : ActV) (h : (x.name.size : Int) + x.text.size + x.to.size ≤ left) : szA left x = left - x.name.size - x.text.size - x.to.size := by unfold szA; rw [if_pos h]

/-- an act's texts as the machine bears them -/
def BearA (x : ActV) : Prop := x.name.size ≤ maxLen ∧ x.text.size ≤ maxLen ∧ x.to.size ≤ maxLen

theorem four {α : Type} {l : List α} (h : l.length = 4) : ∃ a b c d, l = [a, b, c, d] := by
  cases l with
  | nil => simp at h
  | cons a l => obtain ⟨b, c, d, rfl⟩ := three (l := l) (by simpa using h); exact ⟨a, b, c, d, rfl⟩

end Go.Proofs.YthnibebljbljdaaGreatDoor.F
namespace Go.Proofs.YthnibebljbljdaaGreatDoor.F
open Go.RowKit

/-- a list of acts stands in memory below B -/
def As (w : World) (B : Nat) (a : Option Addr) (n : Nat) (xs : List ActV) : Prop :=
  xs.length = n ∧ (n = 0 ∨ ∃ b off, a = some ⟨b, off, none⟩ ∧ b < B ∧ ∀ (j : Nat) (x : ActV), xs[j]? = some x →
    w.cell? ⟨b, off + j * 4, none⟩ = some (.int .i64 x.kind) ∧ w.cell? ⟨b, off + j * 4 + 1, none⟩ = some (.string x.name) ∧ w.cell? ⟨b, off + j * 4 + 2, none⟩ = some (.string x.text) ∧ w.cell? ⟨b, off + j * 4 + 3, none⟩ = some (.string x.to))
theorem As.below {w w' : World} {B C : Nat} {a : Option Addr} {n : Nat} {xs : List ActV} (h : As w B a n xs) (hb : Below C w w') (hB : B ≤ C) : As w' B a n xs := by
  refine ⟨h.1, h.2.imp id ?_⟩
  rintro ⟨b, off, h1, h2, h3⟩
  refine ⟨b, off, h1, h2, fun j x hx => ?_⟩
  have hc : ∀ o, w'.cell? ⟨b, o, none⟩ = w.cell? ⟨b, o, none⟩ := fun o => hb.cell (p := ⟨b, o, none⟩) (by show b < _; omega)
  obtain ⟨c0, c1, c2, c3⟩ := h3 j x hx
  exact ⟨by rw [hc]; exact c0, by rw [hc]; exact c1, by rw [hc]; exact c2, by rw [hc]; exact c3⟩
theorem As.mono {w : World} {B C : Nat} {a : Option Addr} {n : Nat} {xs : List ActV} (h : As w B a n xs) (hB : B ≤ C) : As w C a n xs := by
  refine ⟨h.1, h.2.imp id ?_⟩
  rintro ⟨b, off, h1, h2, h3⟩
  exact ⟨b, off, h1, by omega, h3⟩
theorem As.up {w w' : World} {a : Option Addr} {n : Nat} {xs : List ActV} (h : As w w.heap.size a n xs) (hb : Below w.heap.size w w') : As w' w'.heap.size a n xs :=
  (h.below hb (Nat.le_refl _)).mono hb.size
def acell (x : ActV) : List Value := [.int .i64 x.kind, .string x.name, .string x.text, .string x.to]
def acells (xs : List ActV) : List Value := xs.flatMap acell
theorem acells_length (xs : List ActV) : (acells xs).length = xs.length * 4 := by
  induction xs with
  | nil => rfl
  | cons f fs ih => simp only [acells, List.flatMap_cons, List.length_append, List.length_cons] at ih ⊢; rw [ih]; simp [acell]; omega
theorem acells_snoc (xs : List ActV) (x : ActV) : acells (xs ++ [x]) = acells xs ++ [.int .i64 x.kind, .string x.name, .string x.text, .string x.to] := by simp [acells, acell]
theorem acells_at (xs : List ActV) (j : Nat) (x : ActV) (h : xs[j]? = some x) :
    (acells xs)[j * 4]? = some (.int .i64 x.kind) ∧ (acells xs)[j * 4 + 1]? = some (.string x.name) ∧ (acells xs)[j * 4 + 2]? = some (.string x.text) ∧ (acells xs)[j * 4 + 3]? = some (.string x.to) := by
  induction xs generalizing j with
  | nil => simp at h
  | cons g fs ih =>
    cases j with
    | zero => simp at h; subst h; simp [acells, acell]
    | succ j =>
      have h2 := ih j (by simpa using h)
      have e : ∀ m, (acells (g :: fs))[m + 4]? = (acells fs)[m]? := fun m => by simp [acells, acell]
      refine ⟨?_, ?_, ?_, ?_⟩
      · rw [show (j + 1) * 4 = j * 4 + 4 by omega, e]; exact h2.1
      · rw [show (j + 1) * 4 + 1 = j * 4 + 1 + 4 by omega, e]; exact h2.2.1
      · rw [show (j + 1) * 4 + 2 = j * 4 + 2 + 4 by omega, e]; exact h2.2.2.1
      · rw [show (j + 1) * 4 + 3 = j * 4 + 3 + 4 by omega, e]; exact h2.2.2.2
theorem add_off (g j : Nat) : ((⟨g, 0, none⟩ : Addr).add j) = ⟨g, j, none⟩ := by
  by_cases h0 : j = 0
  · subst h0; rfl
  · simp [Addr.add, h0]
theorem As_of_own {w : World} {B g n cap : Nat} {xs : List ActV} (h : w.ownsRow B 83 4 (.slice (some ⟨g, 0, none⟩) n cap) n (acells xs)) : As w w.heap.size (some ⟨g, 0, none⟩) n xs := by
  have hl := h.1
  rw [acells_length] at hl
  refine ⟨by omega, .inr ⟨g, 0, rfl, (h.lt g rfl).2, fun j x hx => ?_⟩⟩
  obtain ⟨c0, c1, c2, c3⟩ := acells_at xs j x hx
  have hc := fun o v (hv : (acells xs)[o]? = some v) => h.cells (g := g) rfl o v hv
  simp only [add_off] at hc
  simp only [Nat.zero_add]
  exact ⟨hc _ _ c0, hc _ _ c1, hc _ _ c2, hc _ _ c3⟩
/-- the letters of a list of acts -/
def lettersA (xs : List ActV) : Nat := (xs.map fun x => x.name.size + x.text.size + x.to.size).sum
theorem lettersA_snoc (xs : List ActV) (x : ActV) : lettersA (xs ++ [x]) = lettersA xs + (x.name.size + x.text.size + x.to.size) := by simp [lettersA]
theorem lettersA_take (xs : List ActV) (k : Nat) : lettersA (xs.take k) ≤ lettersA xs := by
  have h := congrArg lettersA (List.take_append_drop k xs)
  have e : ∀ a b : List ActV, lettersA (a ++ b) = lettersA a + lettersA b := fun a b => by simp [lettersA]
  have := e (xs.take k) (xs.drop k)
  omega
theorem lettersA_mem {xs : List ActV} {x : ActV} (h : x ∈ xs) : x.name.size + x.text.size + x.to.size ≤ lettersA xs := by
  obtain ⟨j, hj⟩ := List.getElem?_of_mem h
  have h1 := lettersA_take xs (j + 1)
  rw [take_snocF xs j x hj, lettersA_snoc] at h1
  omega
theorem infoIA : (Tryz.prog.info? 83).map (fun i => (i.zero, i.size, i.bytes)) = some (some (.agg #[.int .i64 0, .string .empty, .string .empty, .string .empty]), 4, 56) := by kernel_rfl
/-- all acts fit -/
def FitsA (xs : List ActV) : Prop := ∀ x ∈ xs, FitA x
end Go.Proofs.YthnibebljbljdaaGreatDoor.F
namespace Go.Proofs.YthnibebljbljdaaGreatDoor.Dg
open Go.Lib (decDigits itoa nDigits)

/-- the figures of u that are still to be laid -/
def dg0 (u : Nat) : List UInt8 := if u = 0 then [] else decDigits u

theorem dg0_step (u : Nat) (h : u ≠ 0) : dg0 u = dg0 (u / 10) ++ [UInt8.ofNat (48 + u % 10)] := by
  unfold dg0
  rw [if_neg h]
  by_cases h1 : u < 10
  · rw [Go.Lib.decDigits_one h1, if_pos (by omega), Nat.mod_eq_of_lt h1]
    rfl
  · rw [if_neg (by omega), decDigits, dif_neg h1]

theorem dg0_pos (u : Nat) (h : u ≠ 0) : dg0 u = decDigits u := by unfold dg0; rw [if_neg h]

theorem dec_length (u : Nat) (h : u < 18446744073709551616) : (decDigits u).length ≤ 20 := by
  rw [Go.Lib.decDigits_length]; exact Go.Lib.nDigits_le20 u h

/-- a text of one byte -/
def one (b : UInt8) : ByteArray := ⟨#[b]⟩
theorem one_size (b : UInt8) : (one b).size = 1 := rfl
theorem one_app (b : UInt8) (S : ByteArray) : (one b ++ S).data.toList = b :: S.data.toList := by
  simp [one, ByteArray.data_append]
theorem one_app_size (b : UInt8) (S : ByteArray) : (one b ++ S).size = S.size + 1 := by
  have := congrArg List.length (one_app b S)
  simpa using this

end Go.Proofs.YthnibebljbljdaaGreatDoor.Dg
namespace Go.Proofs.YthnibebljbljdaaGreatDoor
open Go.RowKit Dg
open Go.Lib (decDigits)

theorem conv_byte (w : World) (b : UInt8) (x : Int) (hx : (b.toNat : Int) = x) :
    (convert 136 9 (.slice (some ⟨w.heap.size, 0, none⟩) 1 1)).run Tryz.prog (w.alloc (.cells #[.int .u8 x] 5)) = .ok (.string (one b)) (w.alloc (.cells #[.int .u8 x] 5)) := by
  subst hx
  refine run_convert_bytes_back (P := Tryz.prog) _ 136 9 5 ⟨w.heap.size, 0, none⟩ 1 [b] Tryz.underlying136 Tryz.underlying5 Tryz.underlying9 ?_
  intro j hj
  match j, hj with
  | 0, _ => exact one_new _ _ _ 0 _ rfl

/-- the mark of a number -/
def mk (k : Nat) : ByteArray := one 109 ++ ⟨(decDigits k).toArray⟩

set_option maxRecDepth 100000 in
set_option maxHeartbeats 2000000 in
theorem markText_any (U : Nat) (h0 : 0 < U) (h1 : U ≤ 1000000000) (w : World) :
    Calls Tryz.prog 50 #[.int .i64 (U : Int)] w fun e w' => e = .returned (.string (mk U)) ∧ Below w.heap.size w w' := by
  have hl := dec_length U (by omega)
  have d1 : decide ((U : Int) ≤ 0) = false := by simp; omega
  go_enter Tryz.func50, Tryz.ntmps50
  go_wp2
  go_loopw [0, 3] (fun n s wr => ∃ (u : Nat) (S : ByteArray), u ≤ U ∧ S.size ≤ 20 ∧ n = .int .i64 u ∧ s = .string S ∧ Hid (dg0 u ++ S.data.toList = decDigits U) ∧ Below w.heap.size w wr)
    (fun n _ _ => (intOf n).toNat)
  case atStart => exact ⟨U, ⟨#[]⟩, by omega, by show (0 : Nat) ≤ 20; omega, rfl, rfl, by show _ = _; rw [dg0_pos U (by omega)]; simp, Below.refl _ _⟩
  case round =>
    obtain ⟨u, S, hu, hS, rfl, rfl, hd, hb⟩ := hrel
    have hsz := hb.size
    by_cases hz : u ≤ 0
    · have e : S = ⟨(decDigits U).toArray⟩ := by
        have h2 := hd.out
        have h3 : u = 0 := by omega
        rw [h3] at h2
        apply ByteArray.ext
        apply Array.toList_inj.1
        simpa [dg0] using h2
      have HE : Hid _ := e
      clear e hd
      have hadd := fun wx => run_string_add_sum (P := Tryz.prog) wx ⟨#[109]⟩ S (by show 1 + S.size ≤ _; omega)
      go_wp2
      go_ret
      exact ⟨congrArg (fun x => Ending.returned (.string (one 109 ++ x))) HE.out, hb⟩
    · have hm : u % 10 < 10 := Nat.mod_lt _ (by omega)
      obtain ⟨b, hbv⟩ : ∃ b : UInt8, b = UInt8.ofNat (48 + u % 10) := ⟨_, rfl⟩
      have hcv := conv_byte wr b (48 + (u : Int) % 10) (by rw [hbv]; simp; omega)
      have ha : (one b ++ S).size ≤ 20 := by
        have h2 := congrArg List.length hd.out
        rw [dg0_step u (by omega)] at h2
        simp at h2
        rw [one_app_size]
        omega
      have ho := one_size b
      have HD : Hid (dg0 (u / 10) ++ (one b ++ S).data.toList = decDigits U) := by
        show _ = _
        rw [one_app, ← hd.out, dg0_step u (by omega), hbv]
        simp
      have hadd := fun wx => run_string_add_sum (P := Tryz.prog) wx (one b) S (by omega)
      clear hd hbv
      go_wp2
      go_roundw
      case rel => exact ⟨u / 10, one b ++ S, by omega, ha, by go_num, rfl, HD, hb.alloc hsz _⟩
      case measure => simp [intOf]; omega

end Go.Proofs.YthnibebljbljdaaGreatDoor
namespace Go.Proofs.YthnibebljbljdaaGreatDoor.F
open Go.RowKit

/-- what is left of a measure behind a list of acts -/
def szAs (left : Int) (xs : List ActV) : Int := if (xs.length : Int) + lettersA xs ≤ left then left - xs.length - lettersA xs else -1
theorem szAs_no (left : Int) (xs : List ActV) (h : ¬ (xs.length : Int) + lettersA xs ≤ left) : szAs left xs = -1 := by unfold szAs; rw [if_neg h]
theorem szAs_yes (left : Int) (xs : List ActV) (h : (xs.length : Int) + lettersA xs ≤ left) : szAs left xs = left - xs.length - lettersA xs := by unfold szAs; rw [if_pos h]
theorem szAs_pos (left : Int) (xs : List ActV) : szAs left xs = -1 ∨ (0 ≤ szAs left xs ∧ (xs.length : Int) + lettersA xs ≤ left) := by
  by_cases h : (xs.length : Int) + lettersA xs ≤ left
  · exact .inr ⟨by rw [szAs_yes left xs h]; omega, h⟩
  · exact .inl (szAs_no left xs h)

theorem take_set4 {α : Type} (xs : List α) (m : Nat) (a b c d : α) (h : m + 4 ≤ xs.length) : ((((xs.set m a).set (m + 1) b).set (m + 2) c).set (m + 3) d).take (m + 4) = xs.take m ++ [a, b, c, d] := by
  apply List.ext_getElem?
  intro i
  have hl : (xs.take m).length = m := by simp; omega
  by_cases h1 : i < m
  · rw [List.getElem?_append_left (by omega), List.getElem?_take_of_lt h1, List.getElem?_take_of_lt (by omega), List.getElem?_set_ne (by omega), List.getElem?_set_ne (by omega), List.getElem?_set_ne (by omega), List.getElem?_set_ne (by omega)]
  · rw [List.getElem?_append_right (by omega), hl]
    by_cases h2 : i < m + 4
    · rw [List.getElem?_take_of_lt h2]
      rcases (show i = m ∨ i = m + 1 ∨ i = m + 2 ∨ i = m + 3 by omega) with rfl | rfl | rfl | rfl
      · rw [List.getElem?_set_ne (by omega), List.getElem?_set_ne (by omega), List.getElem?_set_ne (by omega), List.getElem?_set_self (by omega)]; simp
      · rw [List.getElem?_set_ne (by omega), List.getElem?_set_ne (by omega), List.getElem?_set_self (by simp; omega)]; simp
      · rw [List.getElem?_set_ne (by omega), List.getElem?_set_self (by simp; omega)]; simp
      · rw [List.getElem?_set_self (by simp; omega)]; simp
    · rw [List.getElem?_eq_none (by simp; omega), List.getElem?_eq_none (by simp; omega)]

theorem eqAct_yes (x : ActV) (w : World) :
    Calls Tryz.prog 42 #[.agg #[.int .i64 x.kind, .string x.name, .string x.text, .string x.to], .agg #[.int .i64 x.kind, .string x.name, .string x.text, .string x.to]] w fun e w' => e = .returned (.bool true) ∧ Below w.heap.size w w' := by
  go_enter Tryz.func42, Tryz.ntmps42
  go_wp2
  go_ret
  exact ⟨rfl, ((Below.refl _ _).alloc (Nat.le_refl _) _).alloc (by simp) _⟩

set_option maxRecDepth 100000 in
set_option maxHeartbeats 2000000 in
theorem eqActS_same (xs : List ActV) (n : Nat) (a a' : Option Addr) (c c' : Nat) (hn : n ≤ 1048576) (w : World) (h : As w w.heap.size a n xs) (h' : As w w.heap.size a' n xs) :
    Calls Tryz.prog 16 #[.slice a n c, .slice a' n c'] w fun e w' => e = .returned (.bool true) ∧ Below w.heap.size w w' := by
  obtain ⟨hlen, hrow⟩ := h
  obtain ⟨_, hrow'⟩ := h'
  have HR := hideIt hrow
  have HR' := hideIt hrow'
  clear hrow hrow'
  go_enter Tryz.func16, Tryz.ntmps16
  go_wp2
  go_loopw [5] (fun i wr => ∃ k : Nat, k ≤ n ∧ i = .int .i64 (k : Int) ∧ Below w.heap.size w wr) (fun i _ => n - (intOf i).toNat)
  case atStart => exact ⟨0, by omega, rfl, Below.refl _ _⟩
  case round =>
    obtain ⟨k, hk, rfl, hb⟩ := hrel
    by_cases hlt : k < n
    · rcases HR.out with hz | ⟨b, off, rfl, hbl, hc⟩
      · omega
      · rcases HR'.out with hz | ⟨b', off', rfl, hbl', hc'⟩
        · omega
        · obtain ⟨f, hf⟩ : ∃ f, xs[k]? = some f := ⟨xs[k]'(by omega), List.getElem?_eq_getElem (by omega)⟩
          obtain ⟨c0, c1, c2, c3⟩ := hc k f hf
          obtain ⟨d0, d1, d2, d3⟩ := hc' k f hf
          have b1 : (0 : Int) ≤ (k : Int) := by omega
          have b2 : (k : Int) < (n : Int) := by omega
          have HT : Hid (∀ W : World, Below w.heap.size w W → Calls Tryz.prog 42 #[.agg #[.int .i64 f.kind, .string f.name, .string f.text, .string f.to], .agg #[.int .i64 f.kind, .string f.name, .string f.text, .string f.to]] W fun e w' => e = .returned (.bool true) ∧ Below w.heap.size w w') := fun W hW =>
            (eqAct_yes f W).mono fun _ _ ⟨he, hb'⟩ => ⟨he, hW.trans (hb'.mono hW.size)⟩
          have HK : Hid (∀ W : World, Below w.heap.size w W → (W.cell? ⟨b, off + k * 4, none⟩ = some (.int .i64 f.kind) ∧ W.cell? ⟨b, off + k * 4 + 1, none⟩ = some (.string f.name) ∧ W.cell? ⟨b, off + k * 4 + 2, none⟩ = some (.string f.text) ∧ W.cell? ⟨b, off + k * 4 + 3, none⟩ = some (.string f.to) ∧
              W.cell? ⟨b', off' + k * 4, none⟩ = some (.int .i64 f.kind) ∧ W.cell? ⟨b', off' + k * 4 + 1, none⟩ = some (.string f.name) ∧ W.cell? ⟨b', off' + k * 4 + 2, none⟩ = some (.string f.text) ∧ W.cell? ⟨b', off' + k * 4 + 3, none⟩ = some (.string f.to))) := fun W hW =>
            ⟨by rw [hW.cell hbl]; exact c0, by rw [hW.cell hbl]; exact c1, by rw [hW.cell hbl]; exact c2, by rw [hW.cell hbl]; exact c3, by rw [hW.cell hbl']; exact d0, by rw [hW.cell hbl']; exact d1, by rw [hW.cell hbl']; exact d2, by rw [hW.cell hbl']; exact d3⟩
          have hbd := hb.drew
          clear c0 c1 c2 c3 d0 d1 d2 d3 hc hc' hf
          go_wp2
          go_region_held3 (fun u => Below w.heap.size w u ∧ u.cell? ⟨b, off + k * 4, none⟩ = some (.int .i64 f.kind) ∧ u.cell? ⟨b, off + k * 4 + 1, none⟩ = some (.string f.name) ∧ u.cell? ⟨b, off + k * 4 + 2, none⟩ = some (.string f.text) ∧ u.cell? ⟨b, off + k * 4 + 3, none⟩ = some (.string f.to) ∧
              u.cell? ⟨b', off' + k * 4, none⟩ = some (.int .i64 f.kind) ∧ u.cell? ⟨b', off' + k * 4 + 1, none⟩ = some (.string f.name) ∧ u.cell? ⟨b', off' + k * 4 + 2, none⟩ = some (.string f.text) ∧ u.cell? ⟨b', off' + k * 4 + 3, none⟩ = some (.string f.to))
            (first | exact ⟨hb3, HK.out _ hb3⟩ | exact ⟨hbd, HK.out _ hbd⟩)
            ((go_at_call 42; refine (HT.out _ hbd).mono ?_; rintro e w1 ⟨rfl, hb3⟩))
          clear hbd
          go_wp2
          go_roundw
          case rel => exact ⟨k + 1, by omega, by go_num, hb3⟩
          case measure => simp [intOf]; omega
    · go_wp2
      go_ret
      exact ⟨rfl, hb⟩

/-- what is behind a store into a row of g -/
theorem grown_set {w wr : World} {g : Nat} (h : w.grownBy wr (some g)) (k : Nat) (v : Value) : w.grownBy (wr.setCell ⟨g, k, none⟩ v) (some g) :=
  ⟨h.os, h.tape, h.output, by simpa [World.setCell] using h.size, fun j hj hne => by rw [heap_setCell_other wr ⟨g, k, none⟩ j _ (by simpa using hne)]; exact h.block j hj hne⟩
theorem grown_up {w wr w1 : World} {g : Nat} (h : w.grownBy wr (some g)) (hb : Below wr.heap.size wr w1) : w.grownBy w1 (some g) :=
  ⟨hb.os.trans h.os, hb.tape.trans h.tape, hb.output.trans h.output, Nat.le_trans h.size hb.size, fun j hj hne => by rw [hb.block j (Nat.lt_of_lt_of_le hj h.size)]; exact h.block j hj hne⟩

set_option maxRecDepth 100000 in
set_option maxHeartbeats 2000000 in
theorem markActS_any (base g c n k0 : Nat) (xs0 : List Value) (hn : n ≤ 1048576) (hk0 : 0 < k0) (hk1 : k0 ≤ 10000000) (w : World) (h : w.ownsRow base 83 4 (.slice (some ⟨g, 0, none⟩) n c) n xs0) :
    Calls Tryz.prog 21 #[.slice (some ⟨g, 0, none⟩) n c, .int .i64 (k0 : Int)] w fun e w' => e = .returned (.int .i64 ((k0 : Int) + (n : Int) * 4)) ∧ w.grownBy w' (some g) := by
  have H0 := hideIt h
  have HM := hideIt (fun (U : Nat) (h0 : 0 < U) (h1 : U ≤ 1000000000) (x : Int) (hx : (U : Int) = x) u => hx ▸ markText_any U h0 h1 u)
  clear h
  go_enter Tryz.func21, Tryz.ntmps21
  go_wp2
  go_loopw [1, 5] (fun q i wr => ∃ (k : Nat) (xs : List Value), k ≤ n ∧ i = .int .i64 (k : Int) ∧ q = .int .i64 ((k0 : Int) + (k : Int) * 4) ∧ wr.ownsRow base 83 4 (.slice (some ⟨g, 0, none⟩) n c) n xs ∧ w.grownBy wr (some g)) (fun _ i _ => n - (intOf i).toNat)
  case atStart => exact ⟨0, xs0, by omega, rfl, by simp, H0.out, ⟨rfl, rfl, rfl, Nat.le_refl _, fun _ _ _ => rfl⟩⟩
  case round =>
    obtain ⟨k, xs, hk, rfl, rfl, hown, hg⟩ := hrel
    have hl3 : xs.length = n * 4 := hown.1
    by_cases hlt : k < n
    · have b1 : (0 : Int) ≤ (k : Int) := by omega
      have b2 : (k : Int) < (n : Int) := by omega
      have f0 := hown.frozenAt (k * 4)
      have x0 : wr.cell? ⟨g, k * 4, none⟩ = some (xs[k * 4]'(by omega)) := by rw [hown.cellAt (k * 4) (by omega)]; exact List.getElem?_eq_getElem (by omega)
      have o1 := (hown.stored (k * 4) (.int .i64 ((k0 : Int) + (k : Int) * 4))).1
      have g1 := grown_set hg (k * 4) (.int .i64 ((k0 : Int) + (k : Int) * 4))
      have HC1 := hideIt (fun u => HM.out (k0 + k * 4 + 1) (by omega) (by omega) ((k0 : Int) + (k : Int) * 4 + 1) (by omega) u)
      go_wp2_with (go_at_call 50; refine (HC1.out _).mono ?_; rintro e w1 ⟨rfl, hb1⟩; refine Hid.out ?_)
      refine (show ∀ {p : Prop}, p → Hid p from fun h => h) ?_
      have ow1 := World.ownsRow.kept o1 (row := none) ⟨hb1.os, hb1.tape, hb1.output, hb1.size, fun i hi _ => hb1.block i hi⟩ (.inr (by simp [Value.ownBlock]))
      have gw1 := grown_up g1 hb1
      have hlw1 := ow1.1
      have f1 := ow1.frozenAt (k * 4 + 1)
      have x1 := ow1.cellAt (k * 4 + 1) (by omega)
      rw [List.getElem?_eq_getElem (by omega)] at x1
      have o2 := (ow1.stored (k * 4 + 1) (.string (mk (k0 + k * 4 + 1)))).1
      have g2 := grown_set gw1 (k * 4 + 1) (.string (mk (k0 + k * 4 + 1)))
      clear hb1 HC1
      have HC2 := hideIt (fun u => HM.out (k0 + k * 4 + 2) (by omega) (by omega) ((k0 : Int) + (k : Int) * 4 + 2) (by omega) u)
      go_wp2_with (go_at_call 50; refine (HC2.out _).mono ?_; rintro e w2 ⟨rfl, hb2⟩; refine Hid.out ?_)
      refine (show ∀ {p : Prop}, p → Hid p from fun h => h) ?_
      have ow2 := World.ownsRow.kept o2 (row := none) ⟨hb2.os, hb2.tape, hb2.output, hb2.size, fun i hi _ => hb2.block i hi⟩ (.inr (by simp [Value.ownBlock]))
      have gw2 := grown_up g2 hb2
      have hlw2 := ow2.1
      have f2 := ow2.frozenAt (k * 4 + 2)
      have x2 := ow2.cellAt (k * 4 + 2) (by omega)
      rw [List.getElem?_eq_getElem (by omega)] at x2
      have o3 := (ow2.stored (k * 4 + 2) (.string (mk (k0 + k * 4 + 2)))).1
      have g3 := grown_set gw2 (k * 4 + 2) (.string (mk (k0 + k * 4 + 2)))
      clear hb2 HC2
      have HC3 := hideIt (fun u => HM.out (k0 + k * 4 + 3) (by omega) (by omega) ((k0 : Int) + (k : Int) * 4 + 3) (by omega) u)
      go_wp2_with (go_at_call 50; refine (HC3.out _).mono ?_; rintro e w3 ⟨rfl, hb3⟩; refine Hid.out ?_)
      refine (show ∀ {p : Prop}, p → Hid p from fun h => h) ?_
      have ow3 := World.ownsRow.kept o3 (row := none) ⟨hb3.os, hb3.tape, hb3.output, hb3.size, fun i hi _ => hb3.block i hi⟩ (.inr (by simp [Value.ownBlock]))
      have gw3 := grown_up g3 hb3
      have hlw3 := ow3.1
      have f3 := ow3.frozenAt (k * 4 + 3)
      have x3 := ow3.cellAt (k * 4 + 3) (by omega)
      rw [List.getElem?_eq_getElem (by omega)] at x3
      have o4 := (ow3.stored (k * 4 + 3) (.string (mk (k0 + k * 4 + 3)))).1
      have g4 := grown_set gw3 (k * 4 + 3) (.string (mk (k0 + k * 4 + 3)))
      clear hb3 HC3
      go_wp2
      exact ⟨⟨k + 1, _, by omega, by go_num, by go_num, o4, g4⟩, by simp [intOf]; omega⟩
    · obtain rfl : k = n := by omega
      go_wp2
      go_ret
      exact ⟨rfl, hg⟩
end Go.Proofs.YthnibebljbljdaaGreatDoor.F
