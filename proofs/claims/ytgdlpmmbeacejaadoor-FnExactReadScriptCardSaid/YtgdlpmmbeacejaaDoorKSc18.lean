/- A script, line by line: plain mathematics; both sides' events of parts, joined; WorldNew's answer as a list of cells. -/
import Derived.Test.YtgdlpmmbeacejaaDoorKSe18
import Derived.Test.YtgdlpmmbeacejaaDoorKILn18
namespace Go.Proofs.YtgdlpmmbeacejaaDoor
open Go.RowKit C

/-- parts that are only read, at a place -/
def Pv (w : World) (b off : Nat) (ps : List ByteArray) : Prop := b < w.heap.size ∧ ∀ (j : Nat) (x : ByteArray), ps[j]? = some x → w.cell? ⟨b, off + j, none⟩ = some (.string x)
theorem Pv.up {w u : World} {b off : Nat} {ps : List ByteArray} (h : Pv w b off ps) (hb : Below w.heap.size w u) : Pv u b off ps := ⟨Nat.lt_of_lt_of_le h.1 hb.size, fun j x hx => by rw [hb.cell h.1]; exact h.2 j x hx⟩
theorem Pv.at0 {w : World} {b off : Nat} {x : ByteArray} {r : List ByteArray} (h : Pv w b off (x :: r)) : w.cell? ⟨b, off, none⟩ = some (.string x) := by
  have := h.2 0 x rfl
  rwa [Nat.add_zero] at this
theorem Pv.tail {w : World} {b off : Nat} {x : ByteArray} {r : List ByteArray} (h : Pv w b off (x :: r)) : Pv w b (off + 1) r := ⟨h.1, fun j y hy => by
  have := h.2 (j + 1) y (by simpa using hy)
  rw [show off + (j + 1) = off + 1 + j by omega] at this
  exact this⟩
theorem sEvent_any (sh : Int) (ps : List ByteArray) (n : Nat) (hn : ps.length = n) (h1 : 1 ≤ n) (h9 : n ≤ 100) (hz : ∀ x ∈ ps, x.size ≤ 1000) (b off c : Nat) (hcap : n ≤ c) (w : World) (hv : Pv w b off ps) :
    Calls Tryd.prog 13 #[.int .i64 sh, .slice (some ⟨b, off, none⟩) n c] w (SeOut sh ps w) := by
  match ps, hn with
  | [], hn => simp at hn; omega
  | x :: r, hn =>
    obtain ⟨m, hm⟩ : ∃ m, r.length = m := ⟨_, rfl⟩
    obtain rfl : n = m + 1 := by simp at hn; omega
    by_cases e : x = cutW
    · subst e
      match r, hm with
      | [], hm =>
        obtain rfl : m = 0 := by simpa using hm.symm
        exact se_alone sh b off c hcap w hv.1 hv.at0
      | y :: r', hm =>
        obtain ⟨m', hm'⟩ : ∃ m', r'.length = m' := ⟨_, rfl⟩
        obtain rfl : m = m' + 1 := by simp at hm; omega
        exact se_cut sh y r' m' hm' (by omega) (fun z hz' => hz z (by simp [hz'])) b off c hcap w hv.1 hv.at0 hv.tail.at0 hv.tail.tail.2
    · exact se_plain sh x r m hm (by omega) (fun z hz' => hz z (by simp [hz'])) e b off c hcap w hv.1 hv.at0 hv.tail.2
theorem iEventOf_any (ps : List ByteArray) (n : Nat) (hn : ps.length = n) (h1 : 1 ≤ n) (h9 : n ≤ 100) (hz : ∀ x ∈ ps, x.size ≤ 1000) (b off c : Nat) (hcap : n ≤ c) (w : World) (hv : Pv w b off ps)
    (bS M : Nat) (D : DataW Unit) (hbS : bS < w.heap.size) (hcS : w.cell? ⟨bS, 0, none⟩ = some (.map (some M))) (hT : TW w M D 10) :
    Calls Tryd.prog 48 #[.pointer (some ⟨bS, 0, none⟩), .slice (some ⟨b, off, none⟩) n c] w (EoOut ps w) := by
  match ps, hn with
  | [], hn => simp at hn; omega
  | x :: r, hn =>
    obtain ⟨m, hm⟩ : ∃ m, r.length = m := ⟨_, rfl⟩
    obtain rfl : n = m + 1 := by simp at hn; omega
    by_cases e : x = cutW
    · subst e
      match r, hm with
      | [], hm =>
        obtain rfl : m = 0 := by simpa using hm.symm
        exact eo_alone b off c hcap w hv.1 hv.at0 bS
      | y :: r', hm =>
        obtain ⟨m', hm'⟩ : ∃ m', r'.length = m' := ⟨_, rfl⟩
        obtain rfl : m = m' + 1 := by simp at hm; omega
        have hzr : ∀ z ∈ r', z.size ≤ 1000 := fun z hz' => hz z (by simp [hz'])
        have hzy : y.size ≤ 1000 := hz y (by simp)
        cases hi : wIdx y with
        | none => exact eo_cun y r' m' hm' (by omega) hi hzr hzy b off c hcap w hv.1 hv.at0 hv.tail.at0 hv.tail.tail.2 bS M D hbS hcS hT
        | some i => cases hns : nmO r' with
          | none => exact eo_cnn y r' m' hm' (by omega) i hi hns hzr hzy b off c hcap w hv.1 hv.at0 hv.tail.at0 hv.tail.tail.2 bS M D hbS hcS hT
          | some ns => exact eo_cok y r' m' hm' (by omega) i hi ns hns hzr hzy b off c hcap w hv.1 hv.at0 hv.tail.at0 hv.tail.tail.2 bS M D hbS hcS hT
    · have hzr : ∀ z ∈ r, z.size ≤ 1000 := fun z hz' => hz z (by simp [hz'])
      have hzx : x.size ≤ 1000 := hz x (by simp)
      cases hi : wIdx x with
      | none => exact eo_pun x r m hm (by omega) hi hzr hzx b off c hcap w hv.1 e hv.at0 hv.tail.2 bS M D hbS hcS hT
      | some i => cases hns : nmO r with
        | none => exact eo_pnn x r m hm (by omega) i hi hns hzr hzx b off c hcap w hv.1 e hv.at0 hv.tail.2 bS M D hbS hcS hT
        | some ns => exact eo_pok x r m hm (by omega) i hi ns hns hzr hzx b off c hcap w hv.1 e hv.at0 hv.tail.2 bS M D hbS hcS hT

/-- WorldNew's answer: some cells, and whether -/
def WlOut (a b : Int) (w : World) (e : Ending) (w' : World) : Prop := ∃ l : List Value, e = .returned (.tuple #[.agg l.toArray, .bool (hnB a b)]) ∧ l.length = 22 ∧ l.toArray.all (·.oneCell') = true ∧ Below w.heap.size w w'
theorem wl_of {a b : Int} {w w' : World} {e : Ending} (h : WnA w a b e w') : WlOut a b w e w' := by
  obtain ⟨aO, v, cO, aL, k, cL, aN, R, aS, cS, aD, cD, aU, cU, hi, cs, he, _, _, _, hb⟩ := h
  exact ⟨_, he, rfl, by kernel_rfl, hb⟩
theorem sWl_any (a b : Int) (w : World) : Calls Tryd.prog 12 #[.int .i64 a, .int .i64 b] w (WlOut a b w) := (sWorldNew_any a b w).mono fun _ _ h => wl_of h
theorem iWl_any (a b : Int) (w : World) : Calls Tryd.prog 47 #[.int .i64 a, .int .i64 b] w (WlOut a b w) := (iWorldNew_any a b w).mono fun _ _ h => wl_of h

def webW : ByteArray := ⟨#[119, 101, 98]⟩
/-- a script so far: how many vertices (none as long as there was no web line), how many shards, the events -/
structure Sst where
  n : Nat
  sh : Nat
  evs : List (EvR × Bool)
/-- a web line -/
def webR (ps : List ByteArray) : Option (Nat × Nat) :=
  match ps with
  | [] => none
  | x :: r => match nmO r with
    | some [a, b] => if x = webW ∧ hnB (a : Int) (b : Int) = true then some (a, b) else none
    | _ => none
/-- a line's parts -/
def stepP (st : Sst) (ps : List ByteArray) : Option Sst :=
  match ps with
  | [] => some st
  | x :: r =>
    if x.data.toList.head? = some 35 then some st
    else if st.n = 0 then (webR (x :: r)).map fun p => ⟨p.1, p.2, st.evs⟩
    else match evC (st.sh : Int) (x :: r) with
      | none => none
      | some e => if st.evs.length = 70 then none else some ⟨st.n, st.sh, st.evs ++ [e]⟩
/-- a line -/
def stepL (st : Sst) (l : List UInt8) : Option Sst := (Words.poR l).bind (stepP st)
/-- lines from the i-th one on: the script, and the line of the first fault (0: none) -/
def runL : Nat → List (List UInt8) → Sst → Sst × Nat
  | _, [], st => (st, 0)
  | i, l :: ls, st => match stepL st l with
    | none => (⟨0, 0, []⟩, i + 1)
    | some st' => runL (i + 1) ls st'
/-- what ReadScript answers -/
def rsR (l : List UInt8) : Sst × Int :=
  if 4000 < l.length ∨ 100 < (Lines.lns l).length then (⟨0, 0, []⟩, -1)
  else match runL 0 (Lines.lns l) ⟨0, 0, []⟩ with
    | (st, f) => if f ≠ 0 then (⟨0, 0, []⟩, f) else if st.n = 0 then (⟨0, 0, []⟩, 1) else (st, 0)
/-- behind i lines -/
structure Rn (ls : List (List UInt8)) (i : Nat) (st : Sst) : Prop where
  hi : i ≤ ls.length
  he : runL 0 ls ⟨0, 0, []⟩ = runL i (ls.drop i) st
theorem Rn.start (ls : List (List UInt8)) : Rn ls 0 ⟨0, 0, []⟩ := ⟨Nat.zero_le _, rfl⟩
theorem Rn.more {ls : List (List UInt8)} {i : Nat} {st st' : Sst} (h : Rn ls i st) (hi : i < ls.length) (hs : stepL st (ls[i]) = some st') : Rn ls (i + 1) st' := by
  refine ⟨hi, ?_⟩
  rw [h.he, List.drop_eq_getElem_cons hi, runL, hs]
theorem Rn.fault {ls : List (List UInt8)} {i : Nat} {st : Sst} (h : Rn ls i st) (hi : i < ls.length) (hs : stepL st (ls[i]) = none) : runL 0 ls ⟨0, 0, []⟩ = (⟨0, 0, []⟩, i + 1) := by
  rw [h.he, List.drop_eq_getElem_cons hi, runL, hs]
theorem Rn.done {ls : List (List UInt8)} {i : Nat} {st : Sst} (h : Rn ls i st) (hi : ¬ i < ls.length) : runL 0 ls ⟨0, 0, []⟩ = (st, 0) := by
  rw [h.he, List.drop_of_length_le (by omega), runL]
/-- an event's cells, and those of a row of events -/
def ecl (e : EvR × Bool) : List Value := [.int .i64 e.1.k, .int .i64 e.1.nd, .int .i64 e.1.t, .int .i64 e.1.i, .int .i64 e.1.o, .int .i64 e.1.a, .int .i64 e.1.b, .bool e.2, .slice none 0 0]
def evc (l : List (EvR × Bool)) : List Value := l.flatMap ecl
theorem evc_snoc (l : List (EvR × Bool)) (e : EvR × Bool) : evc (l ++ [e]) = evc l ++ ecl e := by simp [evc]
theorem evc_len (l : List (EvR × Bool)) : (evc l).length = l.length * 9 := by
  induction l with
  | nil => rfl
  | cons e r ih => simp [evc, ecl] at ih ⊢; omega
theorem infoEv : (Tryd.prog.info? 57).map (fun i => (i.zero, i.size, i.bytes)) = some (some (.agg #[.int .i64 0, .int .i64 0, .int .i64 0, .int .i64 0, .int .i64 0, .int .i64 0, .int .i64 0, .bool false, .slice none 0 0]), 9, 88) := by kernel_rfl
/-- what both sides of ReadScript answer -/
def RsOut (l : List UInt8) (w : World) (e : Ending) (w' : World) : Prop := ∃ (a : Option Addr) (n c : Nat), e = .returned (.tuple #[.int .i64 ((rsR l).1.n : Int), .int .i64 ((rsR l).1.sh : Int), .slice a n c, .int .i64 (rsR l).2]) ∧ (rsR l).1.evs.length = n ∧
  w'.ownsRow w.heap.size 57 9 (.slice a n c) n (evc (rsR l).1.evs) ∧ Below w.heap.size w w'
end Go.Proofs.YtgdlpmmbeacejaaDoor
