/- The program's writer of records. -/
import Derived.Test.YthnibebljbljdaaGreatDoorKTk14
import Derived.Test.YthnibebljbljdaaGreatDoorKIShort
import Derived.Lib.BufferAt
import Derived.Lib.OthersKept
namespace Go.Proofs.YthnibebljbljdaaGreatDoor
open Go.RowKit Vt

theorem bufWS (T : TypeId) (R : Nat → Option Value) (B b q : Nat) (bs : List Value) (s : ByteArray) (w : World) (h : LibA.IsBuffer T R 5 B b q bs w) (hBw : B ≤ w.heap.size) (h1 : ∀ v ∈ bs, v.oneCell' = true) (hlim : bs.length + s.size ≤ 140737488355328) :
    Calls Tryz.prog 128 #[.pointer (some ⟨b, q, none⟩), .string s] w fun e w' => e = .returned (.tuple #[.int .i64 s.size, .nilIface]) ∧ LibA.IsBuffer T R 5 B b q (bs ++ Lib.byteCells s.data.toList) w' ∧ Below B w w' ∧ Lib.OthersKept 5 (some b) w w' := Any.Buffer_WriteString_at Tryz.laysAt178 T R B b q bs s w h hBw h1 hlim
theorem bufWB (T : TypeId) (R : Nat → Option Value) (B b q : Nat) (bs : List Value) (c : Int) (w : World) (h : LibA.IsBuffer T R 5 B b q bs w) (hBw : B ≤ w.heap.size) (h1 : ∀ v ∈ bs, v.oneCell' = true) (hlim : bs.length + 1 ≤ 140737488355328) :
    Calls Tryz.prog 76 #[.pointer (some ⟨b, q, none⟩), .int .u8 c] w fun e w' => e = .returned .nilIface ∧ LibA.IsBuffer T R 5 B b q (bs ++ [.int .u8 c]) w' ∧ Below B w w' ∧ Lib.OthersKept 5 (some b) w w' := Any.Buffer_WriteByte_at Tryz.laysAt179 T R B b q bs c w h hBw h1 hlim
theorem bufStr (T : TypeId) (R : Nat → Option Value) (B b q : Nat) (l : List UInt8) (w : World) (h : LibA.IsBuffer T R 5 B b q (Lib.byteCells l) w) :
    Calls Tryz.prog 81 #[.pointer (some ⟨b, q, none⟩)] w fun e w' => e = .returned (.string ⟨l.toArray⟩) ∧ ∃ n, w' = w.drewN n := Any.Buffer_String_at Tryz.laysAt182 T R B b q l w h
/-- the writer's flag -/
def RF (f : Bool) : Nat → Option Value := fun j => if j = 3 then some (.bool f) else none
/-- the writer in block b holds L; f: it has failed -/
def BW (B b : Nat) (f : Bool) (L : List UInt8) (w : World) : Prop := LibA.IsBuffer 142 (RF f) 5 B b 0 (Lib.byteCells L) w ∧ B ≤ w.heap.size
/-- what is kept behind a write -/
def KB (B b : Nat) (w w' : World) : Prop := Below B w w' ∧ Lib.OthersKept 5 (some b) w w'
section
variable {B b : Nat} {f : Bool} {L : List UInt8} {w u v : World}
theorem KB.refl (B b : Nat) (w : World) : KB B b w w := ⟨Below.refl _ _, Lib.OthersKept.refl _ _ _⟩
theorem KB.trans (h : KB B b w u) (k : KB B b u v) : KB B b w v := ⟨h.1.trans k.1, h.2.trans k.2⟩
theorem KB.of_below (hB : B ≤ w.heap.size) (h : Below w.heap.size w u) : KB B b w u := ⟨h.mono hB, fun k o hk _ _ => by
  have hl : k < w.heap.size := (Array.getElem?_eq_some_iff.1 hk).1
  rw [h.block k hl]
  exact hk⟩
theorem BW.below (h : BW B b f L w) (hb : Below w.heap.size w u) : BW B b f L u := ⟨h.1.old hb, Nat.le_trans h.2 hb.size⟩
theorem BW.flag (h : BW B b f L w) : w.cell? ⟨b, 3, none⟩ = some (.bool f) := h.1.rest 3 (.inr (by omega))
theorem BW.fz (h : BW B b f L w) (i : Nat) : w.frozen? ⟨b, i, none⟩ = false := h.1.notFrozen i
theorem BW.lt (h : BW B b f L w) : b < w.heap.size := h.1.lt
theorem BxQ.kb {g : Nat} {t : TypeId} {cs : Array Value} (h : BxQ w g t cs) (hk : KB B b w u) (hgb : g ≠ b) (ht : t ≠ 5) : BxQ u g t cs := by
  unfold BxQ
  exact hk.2 g _ h (fun e => hgb (by simpa using e)) (fun c fz e => by injection e with _ e2 _; exact ht e2)
theorem KB.size (h : KB B b w u) : w.heap.size ≤ u.heap.size := h.1.size
end
set_option maxHeartbeats 1000000 in
theorem put_any (B b : Nat) (f ok : Bool) (L : List UInt8) (s : ByteArray) (w : World) (h : BW B b f L w) (hlim : L.length + s.size ≤ 1000000) :
    Calls Tryz.prog 106 #[.pointer (some ⟨b, 0, none⟩), .string s, .bool ok] w fun e w' => e = .returned (.tuple #[]) ∧ BW B b (f || !ok) (L ++ s.data.toList) w' ∧ KB B b w w' := by
  have c3 := h.flag
  have f3 := h.fz 3
  have hB : B ≤ b := h.1.1
  obtain ⟨W, hW⟩ : ∃ W, W = w.setCell ⟨b, 3, none⟩ (.bool (f || !ok)) := ⟨_, rfl⟩
  have hi : LibA.IsBuffer 142 (RF (f || !ok)) 5 B b 0 (Lib.byteCells L) W := by
    rw [hW]
    have := h.1.setOther 3 (.inr (by omega)) (old := .bool f) rfl (.bool (f || !ok))
    have e : (fun j => if j = 3 then some (Value.bool (f || !ok)) else RF f j) = RF (f || !ok) := by
      funext j
      unfold RF
      by_cases hj : j = 3
      · rw [if_pos hj, if_pos hj]
      · rw [if_neg hj, if_neg hj, if_neg hj]
    rw [e] at this
    exact this
  have bW : KB B b w W := by
    rw [hW]
    exact ⟨(Below.refl _ _).setCell (p := ⟨b, 3, none⟩) hB _, (Lib.OthersKept.refl _ _ _).setCell ⟨b, 3, none⟩ rfl _⟩
  have sW : B ≤ W.heap.size := Nat.le_trans h.2 bW.size
  have HS := hideIt (bufWS 142 (RF (f || !ok)) B b 0 (Lib.byteCells L) s W hi sW (Lib.byteCells_one L) (by rw [Lib.byteCells_length]; omega))
  have HK := hideIt bW
  have HsW := hideIt sW
  clear h hi bW sW hlim
  cases f <;> cases ok <;>
    (simp only [Bool.or_false, Bool.or_true, Bool.not_true, Bool.not_false] at hW HS ⊢
     go_enter Tryz.func106, Tryz.ntmps106
     go_upto_region 1 with fail
     rw [← hW]
     clear hW
     go_wp2_with (go_at_call 128; refine HS.out.mono ?_; rintro e w1 ⟨rfl, i1, b1, k1⟩)
     refine bodyPost_end (v := .tuple #[]) ?_ rfl ?_
     · simp [results, Tryz.results106, go_sem]
     exact ⟨rfl, ⟨by rw [Lib.byteCells_append]; exact i1, Nat.le_trans HsW.out b1.size⟩, HK.out.trans ⟨b1, k1⟩⟩)
/-- a number's bytes as the program has them -/
def nmT (x : Int) : List UInt8 := if 0 ≤ x ∧ x ≤ 1000000000 then vt x.toNat else []
def nmL (xs : List Int) : List UInt8 := xs.flatMap nmT
def nmF (xs : List Int) : Bool := xs.any fun x => !decide (N5 x)
theorem nmT_len (x : Int) : (nmT x).length ≤ 5 := by
  unfold nmT
  by_cases h : 0 ≤ x ∧ x ≤ 1000000000
  · rw [if_pos h]; exact vt_le5 x.toNat (by omega)
  · rw [if_neg h]; simp
theorem nmL_len : ∀ xs : List Int, (nmL xs).length ≤ xs.length * 5
  | [] => by simp [nmL]
  | x :: xs => by
    have h1 := nmT_len x
    have h2 := nmL_len xs
    unfold nmL at h2 ⊢
    rw [List.flatMap_cons, List.length_append, List.length_cons]
    omega
theorem iVarText_no14 (n : Int) (h : n < 0 ∨ 1000000000 < n) (w : World) :
    Calls Tryz.prog 83 #[.int .i64 n] w fun e w' => e = .returned (.tuple #[.string ⟨#[]⟩, .bool false]) ∧ w' = w := by
  rcases h with h | h
  · have d1 : decide (n < 0) = true := by simp [h]
    go_enter Tryz.func83, Tryz.ntmps83
    go_wp2
    go_ret2
    exact ⟨rfl, rfl⟩
  · have d1 : decide (n < 0) = false := by simp; omega
    go_enter Tryz.func83, Tryz.ntmps83
    go_wp2
    go_ret2
    exact ⟨rfl, rfl⟩
theorem iVarText_all (x : Int) (w : World) : Calls Tryz.prog 83 #[.int .i64 x] w fun e w' => e = .returned (.tuple #[.string (str (nmT x)), .bool (decide (0 ≤ x ∧ x ≤ 1000000000))]) ∧ Below w.heap.size w w' := by
  by_cases h : 0 ≤ x ∧ x ≤ 1000000000
  · have e : ((x.toNat : Nat) : Int) = x := by omega
    have := iVarText_yes x.toNat (by omega) w
    rw [e] at this
    unfold nmT
    rw [if_pos h, decide_eq_true h]
    exact this
  · unfold nmT
    rw [if_neg h, decide_eq_false h]
    refine (iVarText_no14 x (by omega) w).mono ?_
    rintro e w' ⟨rfl, rfl⟩
    exact ⟨rfl, Below.refl _ _⟩
set_option maxRecDepth 100000 in
set_option maxHeartbeats 2000000 in
theorem numbers_any (B b g : Nat) (f : Bool) (L : List UInt8) (xs : List Int) (n : Nat) (hn : xs.length = n) (h4 : n ≤ 4) (w : World) (h : BW B b f L w) (hx : BxQ w g 3 (xs.map (Value.int .i64)).toArray) (hgb : g ≠ b) (hlim : L.length ≤ 100000) :
    Calls Tryz.prog 77 #[.pointer (some ⟨b, 0, none⟩), .slice (some ⟨g, 0, none⟩) n n] w fun e w' => e = .returned (.tuple #[]) ∧ BW B b (f || nmF xs) (L ++ nmL xs) w' ∧ KB B b w w' := by
  have HH := hideIt h
  have HX := hideIt hx
  have HN := hideIt hn
  clear h hx hn
  go_enter Tryz.func77, Tryz.ntmps77
  go_wp2
  go_loopw [10] (fun i wr => ∃ (j : Nat), j ≤ n ∧ i = .int .i64 (j : Int) ∧ Hid (BW B b (f || nmF (xs.take j)) (L ++ nmL (xs.take j)) wr) ∧ Hid (KB B b w wr)) (fun i _ => n - (intOf i).toNat)
  case atStart => exact ⟨0, by omega, rfl, by show BW _ _ _ _ _; simp [nmF, nmL]; exact HH.out, KB.refl _ _ _⟩
  case round =>
    obtain ⟨j, hj, rfl, hB, hK⟩ := hrel
    by_cases hlt : j < n
    · obtain ⟨x, hxj⟩ : ∃ x, xs[j]? = some x := ⟨xs[j]'(by have := HN.out; omega), List.getElem?_eq_getElem (by have := HN.out; omega)⟩
      have b1 : (0 : Int) ≤ (j : Int) := by omega
      have b2 : (j : Int) < (n : Int) := by omega
      have X := HX.out.kb hK.out hgb (by decide)
      have c0 : wr.cell? ⟨g, j, none⟩ = some (.int .i64 x) := X.at j (by rw [List.getElem?_map, hxj]; rfl)
      have c1 : wr.cell? ⟨g, 0 + j, none⟩ = some (.int .i64 x) := by rw [Nat.zero_add]; exact c0
      have HV := hideIt (iVarText_all x wr)
      have hln := nmL_len (xs.take j)
      have hlt2 : (xs.take j).length ≤ 4 := by rw [List.length_take]; omega
      have hlx := nmT_len x
      have HTk : Hid (xs.take (j + 1) = xs.take j ++ [x]) := by show _ = _; rw [List.take_add_one, hxj]; rfl
      have HLim : Hid ((L ++ nmL (xs.take j)).length + (str (nmT x)).size ≤ 1000000) := by show _ ≤ _; rw [List.length_append, str_size]; omega
      have HP : Hid (∀ u ok, Below wr.heap.size wr u → Calls Tryz.prog 106 #[.pointer (some ⟨b, 0, none⟩), .string (str (nmT x)), .bool ok] u fun e v => e = .returned (.tuple #[]) ∧ BW B b ((f || nmF (xs.take j)) || !ok) ((L ++ nmL (xs.take j)) ++ nmT x) v ∧ KB B b u v) := fun u ok hu => by
        have := put_any B b (f || nmF (xs.take j)) ok (L ++ nmL (xs.take j)) (str (nmT x)) u (hB.out.below hu) HLim.out
        have e : (str (nmT x)).data.toList = nmT x := by simp [str]
        rw [e] at this
        exact this
      have HBs : Hid (B ≤ wr.heap.size) := hB.out.2
      have HFin : Hid (∀ ok, ok = decide (N5 x) → ((f || nmF (xs.take j)) || !ok) = (f || nmF (xs.take (j + 1)))) := fun ok he => by
        rw [HTk.out, he]
        unfold nmF
        rw [List.any_append]
        simp [Bool.or_assoc]
      have HLn : Hid ((L ++ nmL (xs.take j)) ++ nmT x = L ++ nmL (xs.take (j + 1))) := by
        show _ = _
        rw [HTk.out]
        unfold nmL
        rw [List.flatMap_append]
        simp
      have HKr := hideIt hK.out
      generalize str (nmT x) = sx at *
      clear hln hlt2 hlx hxj X hB hK
      by_cases h0 : 0 ≤ x ∧ x ≤ 1000000000
      · rw [decide_eq_true h0] at HV
        by_cases h5 : x ≤ 100000
        · have d1 : decide (x ≤ 100000) = true := decide_eq_true h5
          have he : true = decide (N5 x) := (decide_eq_true (show N5 x from ⟨h0.1, h5⟩)).symm
          have HE := hideIt he
          clear he h0
          go_wp2_with (first | (go_at_call 83; refine HV.out.mono ?_; rintro e u1 ⟨rfl, g1⟩; have HG1 := hideIt g1; clear g1) | (go_at_call 106; refine (HP.out _ true HG1.out).mono ?_; rintro e u2 ⟨rfl, bw, kb⟩))
          exact ⟨⟨j + 1, by omega, by go_num, by show BW _ _ _ _ _; rw [← HFin.out true HE.out, ← HLn.out]; exact bw, HKr.out.trans ((KB.of_below HBs.out HG1.out).trans kb)⟩, by simp [intOf]; omega⟩
        · have d1 : decide (x ≤ 100000) = false := decide_eq_false h5
          have he : false = decide (N5 x) := (decide_eq_false (fun h : N5 x => h5 h.2)).symm
          have HE := hideIt he
          clear he h0
          go_wp2_with (first | (go_at_call 83; refine HV.out.mono ?_; rintro e u1 ⟨rfl, g1⟩; have HG1 := hideIt g1; clear g1) | (go_at_call 106; refine (HP.out _ false HG1.out).mono ?_; rintro e u2 ⟨rfl, bw, kb⟩))
          exact ⟨⟨j + 1, by omega, by go_num, by show BW _ _ _ _ _; rw [← HFin.out false HE.out, ← HLn.out]; exact bw, HKr.out.trans ((KB.of_below HBs.out HG1.out).trans kb)⟩, by simp [intOf]; omega⟩
      · rw [decide_eq_false h0] at HV
        have he : false = decide (N5 x) := (decide_eq_false (fun h : N5 x => h0 ⟨h.1, by have := h.2; omega⟩)).symm
        have HE := hideIt he
        clear he h0
        go_wp2_with (first | (go_at_call 83; refine HV.out.mono ?_; rintro e u1 ⟨rfl, g1⟩; have HG1 := hideIt g1; clear g1) | (go_at_call 106; refine (HP.out _ false HG1.out).mono ?_; rintro e u2 ⟨rfl, bw, kb⟩))
        exact ⟨⟨j + 1, by omega, by go_num, by show BW _ _ _ _ _; rw [← HFin.out false HE.out, ← HLn.out]; exact bw, HKr.out.trans ((KB.of_below HBs.out HG1.out).trans kb)⟩, by simp [intOf]; omega⟩
    · have e : xs.take j = xs := List.take_of_length_le (by have := HN.out; omega)
      have HF : Hid (BW B b (f || nmF xs) (L ++ nmL xs) wr) := by have := hB.out; rw [e] at this; exact this
      clear e hB
      go_wp2
      refine bodyPost_end (v := .tuple #[]) ?_ rfl ?_
      · simp [results, Tryz.results77, go_sem]
      exact ⟨rfl, HF.out, hK.out⟩
end Go.Proofs.YthnibebljbljdaaGreatDoor
