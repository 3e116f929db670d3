/- Bytes in memory of the call's own. Plain mathematics on numerals: no program is named here. What the law's own marks and looks on a row of texts answer: markText, eqStringS, markStringS, heldStringS. Plain mathematics on the words of a line: no program is named here. The library's contracts at this program, by the shelf's own laying in plain words: each body is held against the body of which its contract was proved. What isPlain and the two PartsOf answer at every line. -/
import Derived.Test.YtgdlpmmbeacejaaDoorProg
import GoSem.Claim
import GoSem.ClaimJoined
import GoSem.ClaimMapViews
import Derived.JoinedTies
import Derived.KernelRfl
import Derived.RowKit
import Derived.WalkKit
import Derived.OwnWalk
import Derived.Laws.IdiomStrings
import Derived.Lib.ItoaLen
import Derived.WalkSpells
import Derived.WalkSmall
import Derived.BigQuiet
import Derived.Deep.QuietTactic
import Derived.Deep.RegionHeld3
import Derived.Laws.Concat
import Derived.Lib.Fields
import Derived.Shelf.LaysM
import Derived.Shelf.Strconv.Clone
import Derived.Shelf.Strings.Fields
import Derived.Shelf.Strings.FieldsAny
import Derived.Lib.Strings
import Derived.Lib.AppendIntMem
import Derived.Deep.AppendLies
namespace Go.Proofs.YtgdlpmmbeacejaaDoor.C
open Go.RowKit

theorem info5 : (Tryd.prog.info? 5).map (fun i => (i.zero, i.size, i.bytes)) = some (some (.int .u8 0), 1, 1) := by kernel_rfl

/-- the cells of the bytes l -/
def bv (l : List UInt8) : List Value := l.map fun b => Value.int .u8 (b.toNat : Int)

theorem bv_snoc (l : List UInt8) (b : UInt8) (n : Int) (h : (b.toNat : Int) = n) : bv l ++ [Value.int .u8 n] = bv (l ++ [b]) := by
  subst h; simp [bv]

theorem one_new (w : World) (v : Value) (t : TypeId) : ∀ j u, [v][j]? = some u → (w.alloc (.cells #[v] t)).cell? ((⟨w.heap.size, 0, none⟩ : Addr).add j) = some u := by
  intro j u hj
  match j, hj with
  | 0, hj => simp at hj; subst hj; simp [Addr.add]

/-- behind an append to a row of the call's own, nothing below B has turned -/
theorem below_app {B : Nat} {w wr w1 : World} {v : Value} {n : Nat} {xs : List Value} {o : Obj} (hb : Below B w wr) (hB : B ≤ w.heap.size)
    (hown : wr.ownsRow B 5 1 v n xs) (hg : (wr.alloc o).grownBy w1 v.ownBlock) : Below B w w1 :=
  (hb.alloc (by have := hb.size; omega) _).grown hg (by have := hb.size; simp; omega) (fun k hk => (hown.lt k hk).1)

theorem below_appD {B : Nat} {w wr w1 : World} {v : Value} {n : Nat} {xs : List Value} {o : Obj} (hb : Below B w wr) (hB : B ≤ w.heap.size)
    (hown : wr.ownsRow B 5 1 v n xs) (hg : ((wr.alloc o).drew).grownBy w1 v.ownBlock) : Below B w w1 :=
  below_app (o := o) hb hB hown ⟨hg.os, hg.tape, hg.output, hg.size, hg.block⟩

/-- 'string(out)' of a row of bytes of the call's own -/
theorem conv_own {B n : Nat} {v : Value} {l : List UInt8} {w : World} (hown : w.ownsRow B 5 1 v n (bv l)) (hv : ¬ v = .slice none 0 0) :
    ∃ g cap, v = .slice (some ⟨g, 0, none⟩) l.length cap ∧ (convert 98 9 (.slice (some ⟨g, 0, none⟩) l.length cap)).run Tryd.prog w = .ok (.string ⟨l.toArray⟩) w := by
  have hn : l.length = n := by have := hown.1; simpa [bv] using this
  subst hn
  have hown0 := hown
  rcases hown.2 with ⟨h, _⟩ | ⟨g, cap, cur, rfl, -, -, -, -, -, -⟩
  · exact absurd h hv
  · exact ⟨g, cap, rfl, run_convert_bytes_back (P := Tryd.prog) w 98 9 5 ⟨g, 0, none⟩ cap l Tryd.underlying98 Tryd.underlying5 Tryd.underlying9 (fun j hj => hown0.cells (g := g) rfl j _ (by simp [bv, hj]))⟩

theorem conv_at {B n g cap : Nat} {l : List UInt8} {w : World} (hown : w.ownsRow B 5 1 (.slice (some ⟨g, 0, none⟩) n cap) n (bv l)) :
    (convert 98 9 (.slice (some ⟨g, 0, none⟩) n cap)).run Tryd.prog w = .ok (.string ⟨l.toArray⟩) w := by
  obtain ⟨g', cap', hv, hcv⟩ := conv_own hown (by simp)
  rw [hv]
  exact hcv

end Go.Proofs.YtgdlpmmbeacejaaDoor.C
namespace Go.Proofs.YtgdlpmmbeacejaaDoor.Dg
open Go.Lib (decDigits itoa nDigits)

/-- the figures of u that are still to be laid -/
def dg0 (u : Nat) : List UInt8 := if u = 0 then [] else decDigits u

theorem dg0_step (u : Nat) (h : u ≠ 0) : dg0 u = dg0 (u / 10) ++ [UInt8.ofNat (48 + u % 10)] := by
  unfold dg0
  rw [if_neg h]
  by_cases h1 : u < 10
  · rw [Go.Lib.decDigits_one h1, if_pos (by omega), Nat.mod_eq_of_lt h1]
    rfl
  · rw [if_neg (by omega), decDigits, dif_neg h1]

theorem dg0_pos (u : Nat) (h : u ≠ 0) : dg0 u = decDigits u := by unfold dg0; rw [if_neg h]

theorem dec_length (u : Nat) (h : u < 18446744073709551616) : (decDigits u).length ≤ 20 := by
  rw [Go.Lib.decDigits_length]; exact Go.Lib.nDigits_le20 u h

/-- a text of one byte -/
def one (b : UInt8) : ByteArray := ⟨#[b]⟩
theorem one_size (b : UInt8) : (one b).size = 1 := rfl
theorem one_app (b : UInt8) (S : ByteArray) : (one b ++ S).data.toList = b :: S.data.toList := by
  simp [one, ByteArray.data_append]
theorem one_app_size (b : UInt8) (S : ByteArray) : (one b ++ S).size = S.size + 1 := by
  have := congrArg List.length (one_app b S)
  simpa using this

end Go.Proofs.YtgdlpmmbeacejaaDoor.Dg
namespace Go.Proofs.YtgdlpmmbeacejaaDoor.C
open Go.RowKit Dg
open Go.Lib (decDigits)

theorem conv_byte (w : World) (b : UInt8) (x : Int) (hx : (b.toNat : Int) = x) :
    (convert 98 9 (.slice (some ⟨w.heap.size, 0, none⟩) 1 1)).run Tryd.prog (w.alloc (.cells #[.int .u8 x] 5)) = .ok (.string (one b)) (w.alloc (.cells #[.int .u8 x] 5)) := by
  subst hx
  refine run_convert_bytes_back (P := Tryd.prog) _ 98 9 5 ⟨w.heap.size, 0, none⟩ 1 [b] Tryd.underlying98 Tryd.underlying5 Tryd.underlying9 ?_
  intro j hj
  match j, hj with
  | 0, _ => exact one_new _ _ _ 0 _ rfl

/-- the mark of a number -/
def mk (k : Nat) : ByteArray := one 109 ++ ⟨(decDigits k).toArray⟩

theorem grown_of_below {w w' : World} (h : Below w.heap.size w w') (row : Option Nat) : w.grownBy w' row :=
  ⟨h.os, h.tape, h.output, h.size, fun k hk _ => h.block k hk⟩

theorem grown_trans {a b c : World} {row : Option Nat} (h : a.grownBy b row) (k : b.grownBy c row) : a.grownBy c row :=
  ⟨k.os.trans h.os, k.tape.trans h.tape, k.output.trans h.output, Nat.le_trans h.size k.size, fun i hi hr => (k.block i (Nat.lt_of_lt_of_le hi h.size) hr).trans (h.block i hi hr)⟩

/-- the texts ss lie in a row of the call's own, from block base on -/
abbrev Own (w : World) (base : Nat) (v : Value) (ss : List ByteArray) : Prop := w.ownsRow base 9 1 v ss.length (ss.map Value.string)

theorem Own.below {w w' : World} {base : Nat} {v : Value} {ss : List ByteArray} (h : Own w base v ss) (hb : Below w.heap.size w w') : Own w' base v ss :=
  World.ownsRow.kept h (grown_of_below hb none) (by cases hv : v.ownBlock <;> simp)

/-- the first j texts are the marks from k0 on -/
def Marked (ms : List ByteArray) (k0 j : Nat) : Prop := ∀ t, t < j → ms[t]? = some (mk (k0 + t))

theorem Marked.set {ms : List ByteArray} {k0 j : Nat} (h : Marked ms k0 j) (hj : j < ms.length) : Marked (ms.set j (mk (k0 + j))) k0 (j + 1) := by
  intro t ht
  by_cases e : t = j
  · subst e
    simp [hj]
  · rw [List.getElem?_set_ne (by omega)]
    exact h t (by omega)

end Go.Proofs.YtgdlpmmbeacejaaDoor.C
namespace Go.Proofs.YtgdlpmmbeacejaaDoor.Words
open Go.Lib (fields fieldsGo isSp)

def plainC (c : UInt8) : Bool := decide (32 ≤ c.toNat ∧ c.toNat ≤ 126)
def plainB (l : List UInt8) : Bool := l.all plainC

theorem sp_plain (c : UInt8) (h : plainC c = true) (h2 : c.toNat ≠ 32) : isSp c = false := by
  unfold plainC at h
  have hh : 32 ≤ c.toNat ∧ c.toNat ≤ 126 := of_decide_eq_true h
  have hx : ∀ x : UInt8, x.toNat ≤ 32 → (c == x) = false := fun x hx => by
    rw [beq_eq_false_iff_ne]
    intro e
    subst e
    omega
  unfold isSp
  rw [hx 9 (by decide), hx 10 (by decide), hx 11 (by decide), hx 12 (by decide), hx 13 (by decide), hx 32 (by decide)]
  rfl

theorem sp_blank (c : UInt8) (h : c.toNat = 32) : isSp c = true := by
  have e : c = 32 := UInt8.toNat_inj.1 h
  subst e
  rfl

theorem plainB_take (l : List UInt8) (k : Nat) (h : k < l.length) (hp : plainB (l.take k) = true) (hc : plainC (l[k]) = true) : plainB (l.take (k + 1)) = true := by
  rw [List.take_succ_eq_append_getElem h]
  unfold plainB at *
  simp only [List.all_append, hp, List.all_cons, hc, List.all_nil, Bool.and_true]

theorem plainB_bad (l : List UInt8) (k : Nat) (h : k < l.length) (hc : plainC (l[k]) = false) : plainB l = false := by
  unfold plainB
  rw [List.all_eq_false]
  exact ⟨l[k], List.getElem_mem h, by simp [hc]⟩

/-- behind k bytes: the words o are whole, the next one begins at b -/
structure Sp (l : List UInt8) (k b : Nat) (o : List (List UInt8)) : Prop where
  le : k ≤ l.length
  bk : b ≤ k
  eq : o ++ fieldsGo ((l.drop b).take (k - b)) (l.drop k) = fields l

theorem Sp.start (l : List UInt8) : Sp l 0 0 [] := ⟨Nat.zero_le _, Nat.le_refl _, by simp [fields]⟩

theorem cur_more (l : List UInt8) (k b : Nat) (h : k < l.length) (hb : b ≤ k) : (l.drop b).take (k + 1 - b) = (l.drop b).take (k - b) ++ [l[k]] := by
  have e : k + 1 - b = (k - b) + 1 := by omega
  rw [e, List.take_add_one]
  congr 1
  rw [List.getElem?_drop, show b + (k - b) = k by omega, List.getElem?_eq_getElem h]
  rfl

theorem Sp.char {l : List UInt8} {k b : Nat} {o : List (List UInt8)} (h : Sp l k b o) (hk : k < l.length) (hc : isSp (l[k]) = false) : Sp l (k + 1) b o := by
  refine ⟨by omega, by have := h.bk; omega, ?_⟩
  rw [← h.eq, cur_more l k b hk h.bk, List.drop_eq_getElem_cons hk]
  congr 1
  conv => rhs; rw [fieldsGo]
  rw [if_neg (by simp [hc])]

theorem cur_some (l : List UInt8) (k b : Nat) (hk : k ≤ l.length) (hb : b < k) : ((l.drop b).take (k - b)).isEmpty = false := by
  cases h : (l.drop b).take (k - b) with
  | nil =>
    have := congrArg List.length h
    simp at this
    omega
  | cons a r => rfl

theorem Sp.blank_some {l : List UInt8} {k b : Nat} {o : List (List UInt8)} (h : Sp l k b o) (hk : k < l.length) (hc : isSp (l[k]) = true) (hb : b < k) : Sp l (k + 1) (k + 1) (o ++ [(l.drop b).take (k - b)]) := by
  refine ⟨by omega, by omega, ?_⟩
  rw [← h.eq, List.drop_eq_getElem_cons hk]
  conv => rhs; rw [fieldsGo]
  rw [if_pos hc, if_neg (by rw [cur_some l k b (by omega) hb]; simp)]
  simp

theorem Sp.blank_none {l : List UInt8} {k b : Nat} {o : List (List UInt8)} (h : Sp l k b o) (hk : k < l.length) (hc : isSp (l[k]) = true) (hb : ¬ b < k) : Sp l (k + 1) (k + 1) o := by
  have e : b = k := by have := h.bk; omega
  refine ⟨by omega, by omega, ?_⟩
  rw [← h.eq, List.drop_eq_getElem_cons hk, e]
  conv => rhs; rw [fieldsGo]
  rw [if_pos hc]
  simp

theorem Sp.end_some {l : List UInt8} {k b : Nat} {o : List (List UInt8)} (h : Sp l k b o) (hk : ¬ k < l.length) (hb : b < k) : o ++ [(l.drop b).take (k - b)] = fields l := by
  have e : l.drop k = [] := List.drop_eq_nil_of_le (by omega)
  rw [← h.eq, e, fieldsGo, if_neg (by rw [cur_some l k b h.le hb]; simp)]

theorem Sp.end_none {l : List UInt8} {k b : Nat} {o : List (List UInt8)} (h : Sp l k b o) (hk : ¬ k < l.length) (hb : ¬ b < k) : o = fields l := by
  have e : l.drop k = [] := List.drop_eq_nil_of_le (by omega)
  have e2 : k - b = 0 := by have := h.bk; omega
  rw [← h.eq, e, e2, fieldsGo]
  simp

def mkB (l : List UInt8) : ByteArray := ⟨l.toArray⟩

/-- the words that a line is parted into, or nothing -/
def poR (l : List UInt8) : Option (List ByteArray) := if l.length ≤ 600 ∧ plainB l = true ∧ (fields l).length ≤ 10 then some ((fields l).map mkB) else none

theorem poR_long (l : List UInt8) (h : 600 < l.length) : poR l = none := by unfold poR; rw [if_neg (by omega)]
theorem poR_bad (l : List UInt8) (h : plainB l = false) : poR l = none := by unfold poR; rw [if_neg (by simp [h])]
theorem poR_many (l : List UInt8) (h : 10 < (fields l).length) : poR l = none := by unfold poR; rw [if_neg (by omega)]
theorem poR_yes (l : List UInt8) (h : l.length ≤ 600) (hp : plainB l = true) (hf : (fields l).length ≤ 10) : poR l = some ((fields l).map mkB) := by unfold poR; rw [if_pos ⟨h, hp, hf⟩]
theorem poR_length {l : List UInt8} {ss : List ByteArray} (h : poR l = some ss) : ss.length ≤ 10 := by
  unfold poR at h
  split at h
  · rename_i hc
    simp at h
    subst h
    simpa using hc.2.2
  · cases h

end Go.Proofs.YtgdlpmmbeacejaaDoor.Words
namespace Go.Proofs
open Go.Shelf
def Tryd.laysM316_ren : Go.Shelf.Ren := ⟨fun | 316 => 54 | n => n, fun | 9 => 9 | 3 => 3 | 4 => 4 | 37 => 98 | 0 => 0 | 127 => 113 | 5 => 5 | n => n, fun | n => n⟩
theorem Tryd.laysM316 : Go.Proofs.LaysM.n316 Tryd.prog Tryd.laysM316_ren := {
  mixed := by kernel_rfl
  f316 := Tryd.func54.trans (congrArg some (by kernel_rfl))
  t0 := Tryd.underlying0
  a0 := Tryd.isAgg0
  z0 := Tryd.sizeOf0
  v0 := Tryd.zeroValue0
  t3 := Tryd.underlying3
  a3 := Tryd.isAgg3
  z3 := Tryd.sizeOf3
  v3 := Tryd.zeroValue3
  t4 := Tryd.underlying4
  a4 := Tryd.isAgg4
  z4 := Tryd.sizeOf4
  v4 := Tryd.zeroValue4
  t9 := Tryd.underlying9
  a9 := Tryd.isAgg9
  z9 := Tryd.sizeOf9
  v9 := Tryd.zeroValue9
  t37 := Tryd.underlying98
  a37 := Tryd.isAgg98
  z37 := Tryd.sizeOf98
  v37 := Tryd.zeroValue98
  t127 := Tryd.underlying113
  a127 := Tryd.isAgg113
  z127 := Tryd.sizeOf113
  v127 := Tryd.zeroValue113
  t5 := Tryd.underlying5
  a5 := Tryd.isAgg5
  z5 := Tryd.sizeOf5
  v5 := Tryd.zeroValue5
  i0 := by kernel_rfl
  i3 := by kernel_rfl
  i4 := by kernel_rfl
  i5 := by kernel_rfl
  i9 := by kernel_rfl
  i37 := by kernel_rfl
  i127 := by kernel_rfl }
open Go.RowKit in
theorem Tryd.stringslite_Clone (s : ByteArray) (w : World) (hlim : s.size ≤ 281474976710656) :
    Calls Tryd.prog 54 #[.string s] w fun e w' => e = .returned (.string s) ∧ Below w.heap.size w w' := Any.stringslite_Clone Tryd.laysM316 s w hlim
def Tryd.lays157_ren : Go.Shelf.Ren := ⟨fun | 157 => 43 | 229 => 52 | 199 => 53 | 261 => 60 | 311 => 66 | 312 => 67 | n => n, fun | 9 => 9 | 31 => 28 | 3 => 3 | 5 => 5 | 4 => 4 | 119 => 101 | 0 => 0 | 40 => 103 | 152 => 107 | 21 => 21 | 154 => 109 | 51 => 110 | 141 => 112 | 196 => 120 | 193 => 117 | 198 => 123 | 49 => 121 | 194 => 118 | 201 => 126 | 226 => 135 | 46 => 136 | 227 => 137 | n => n, fun | 0 => 0 | 6 => 1 | n => n⟩
theorem Tryd.lays157 : Go.Proofs.Lays.n157 Tryd.prog Tryd.lays157_ren := {
  mixed := by kernel_rfl
  f157 := Tryd.func43.trans (congrArg some (by kernel_rfl))
  f199 := Tryd.func53.trans (congrArg some (by kernel_rfl))
  f229 := Tryd.func52.trans (congrArg some (by kernel_rfl))
  f261 := Tryd.func60.trans (congrArg some (by kernel_rfl))
  f311 := Tryd.func66.trans (congrArg some (by kernel_rfl))
  f312 := Tryd.func67.trans (congrArg some (by kernel_rfl))
  t0 := Tryd.underlying0
  a0 := Tryd.isAgg0
  z0 := Tryd.sizeOf0
  v0 := Tryd.zeroValue0
  t3 := Tryd.underlying3
  a3 := Tryd.isAgg3
  z3 := Tryd.sizeOf3
  v3 := Tryd.zeroValue3
  t4 := Tryd.underlying4
  a4 := Tryd.isAgg4
  z4 := Tryd.sizeOf4
  v4 := Tryd.zeroValue4
  t5 := Tryd.underlying5
  a5 := Tryd.isAgg5
  z5 := Tryd.sizeOf5
  v5 := Tryd.zeroValue5
  t9 := Tryd.underlying9
  a9 := Tryd.isAgg9
  z9 := Tryd.sizeOf9
  v9 := Tryd.zeroValue9
  t21 := Tryd.underlying21
  a21 := Tryd.isAgg21
  z21 := Tryd.sizeOf21
  v21 := Tryd.zeroValue21
  t31 := Tryd.underlying28
  a31 := Tryd.isAgg28
  z31 := Tryd.sizeOf28
  v31 := Tryd.zeroValue28
  t40 := Tryd.underlying103
  a40 := Tryd.isAgg103
  z40 := Tryd.sizeOf103
  v40 := Tryd.zeroValue103
  t46 := Tryd.underlying136
  a46 := Tryd.isAgg136
  z46 := Tryd.sizeOf136
  v46 := Tryd.zeroValue136
  t49 := Tryd.underlying121
  a49 := Tryd.isAgg121
  z49 := Tryd.sizeOf121
  v49 := Tryd.zeroValue121
  t51 := Tryd.underlying110
  a51 := Tryd.isAgg110
  z51 := Tryd.sizeOf110
  v51 := Tryd.zeroValue110
  t119 := Tryd.underlying101
  a119 := Tryd.isAgg101
  z119 := Tryd.sizeOf101
  t141 := Tryd.underlying112
  a141 := Tryd.isAgg112
  z141 := Tryd.sizeOf112
  v141 := Tryd.zeroValue112
  t152 := Tryd.underlying107
  a152 := Tryd.isAgg107
  z152 := Tryd.sizeOf107
  v152 := Tryd.zeroValue107
  t154 := Tryd.underlying109
  a154 := Tryd.isAgg109
  z154 := Tryd.sizeOf109
  v154 := Tryd.zeroValue109
  t193 := Tryd.underlying117
  a193 := Tryd.isAgg117
  z193 := Tryd.sizeOf117
  v193 := Tryd.zeroValue117
  t194 := Tryd.underlying118
  a194 := Tryd.isAgg118
  z194 := Tryd.sizeOf118
  v194 := Tryd.zeroValue118
  t196 := Tryd.underlying120
  a196 := Tryd.isAgg120
  z196 := Tryd.sizeOf120
  v196 := Tryd.zeroValue120
  t198 := Tryd.underlying123
  a198 := Tryd.isAgg123
  z198 := Tryd.sizeOf123
  v198 := Tryd.zeroValue123
  t201 := Tryd.underlying126
  a201 := Tryd.isAgg126
  z201 := Tryd.sizeOf126
  v201 := Tryd.zeroValue126
  t226 := Tryd.underlying135
  a226 := Tryd.isAgg135
  z226 := Tryd.sizeOf135
  v226 := Tryd.zeroValue135
  t227 := Tryd.underlying137
  a227 := Tryd.isAgg137
  z227 := Tryd.sizeOf137
  v227 := Tryd.zeroValue137
  g0 := by kernel_rfl
  g6 := by kernel_rfl }
open Go.RowKit Go.Lib in
theorem Tryd.strings_Fields (s : ByteArray) (w : World) (hs : s.size < 4294967281) (hascii : ∀ (j : Nat) b, s.data.toList[j]? = some b → b.toNat < 128) (htab : Lib.TabIs Tryd.prog w "strings.asciiSpace" .u8 Lib.asciiSpaceTab) :
    Calls Tryd.prog 43 #[.string s] w fun e w' =>
      e = .returned (.slice (some ⟨w.heap.size, 0, none⟩) (Lib.fields s.data.toList).length (Lib.fields s.data.toList).length) ∧ w' = w.alloc (.cells ((Lib.fields s.data.toList).map fun l => Value.string ⟨l.toArray⟩).toArray 9) := Any.strings_Fields Tryd.lays157 (by kernel_rfl) (by kernel_rfl) s w hs hascii htab
end Go.Proofs
namespace Go.Proofs.YtgdlpmmbeacejaaDoor.C
open Go.RowKit Words
open Go.Lib (fields)

theorem info9 : (Tryd.prog.info? 9).map (fun i => (i.zero, i.size, i.bytes)) = some (some (.string ⟨#[]⟩), 1, 16) := by kernel_rfl

theorem pbyte (s : ByteArray) (k : Nat) (h : k < s.size) : s.data.toList[k]'(by simpa using h) = s[k] := rfl

set_option maxRecDepth 100000 in
set_option maxHeartbeats 1000000 in
theorem isPlain_any (s : ByteArray) (hs : s.size ≤ 1048576) (w : World) :
    Calls Tryd.prog 42 #[.string s] w fun e w' => e = .returned (.bool (plainB s.data.toList)) ∧ w' = w := by
  go_enter Tryd.func42, Tryd.ntmps42
  go_wp2
  go_loop [6] (fun i => ∃ k : Nat, k ≤ s.size ∧ i = .int .i64 k ∧ Hid (plainB (s.data.toList.take k) = true)) (fun i => s.size - (intOf i).toNat)
  case atStart => exact ⟨0, by omega, rfl, rfl⟩
  case round =>
    obtain ⟨k, hk, rfl, hp⟩ := hrel
    by_cases hlt : k < s.size
    · have hc := UInt8.toNat_lt (s[k])
      by_cases h1 : 32 ≤ (s[k]).toNat
      · have e1 : decide (((s[k]).toNat : Int) < 32) = false := by simp; omega
        by_cases h2 : (s[k]).toNat ≤ 126
        · have e2 : decide ((126 : Int) < ((s[k]).toNat : Int)) = false := by simp; omega
          have HP : Hid (plainB (s.data.toList.take (k + 1)) = true) := plainB_take _ k (by simpa using hlt) hp.out (by rw [pbyte s k hlt]; simp [plainC, h1, h2])
          go_wp2
          go_round
          case rel => exact ⟨k + 1, by omega, by go_num, HP⟩
          case measure => simp [intOf]; omega
        · have e2 : decide ((126 : Int) < ((s[k]).toNat : Int)) = true := by simp; omega
          have HP : Hid (plainB s.data.toList = false) := plainB_bad _ k (by simpa using hlt) (by rw [pbyte s k hlt]; simp [plainC]; omega)
          go_wp2
          go_ret
          exact ⟨by rw [HP.out]; rfl, rfl⟩
      · have e1 : decide (((s[k]).toNat : Int) < 32) = true := by simp; omega
        have HP : Hid (plainB s.data.toList = false) := plainB_bad _ k (by simpa using hlt) (by rw [pbyte s k hlt]; simp [plainC]; omega)
        go_wp2
        go_ret
        exact ⟨by rw [HP.out]; rfl, rfl⟩
    · have e : s.data.toList.take k = s.data.toList := List.take_of_length_le (by simp; omega)
      have HP : Hid (plainB s.data.toList = true) := by have := hp.out; rw [e] at this; exact this
      clear e
      go_wp2
      go_ret
      exact ⟨by rw [HP.out]; rfl, rfl⟩

theorem cut_text (s : ByteArray) (b k : Nat) : s.extract b k = mkB ((s.data.toList.drop b).take (k - b)) := by
  apply ByteArray.ext
  apply Array.toList_inj.1
  rw [Lib.extract_data]
  rfl

/-- the cells of the words -/
def wv (o : List (List UInt8)) : List Value := (o.map mkB).map Value.string
theorem wv_snoc (o : List (List UInt8)) (x : List UInt8) (S : ByteArray) (h : S = mkB x) : wv o ++ [Value.string S] = wv (o ++ [x]) := by subst h; simp [wv]

/-- what a parter of a line answers -/
def PoOut (s : ByteArray) (w : World) (e : Ending) (w' : World) : Prop :=
  ∃ v, e = .returned (.tuple #[v, .bool (poR s.data.toList).isSome]) ∧ Own w' w.heap.size v ((poR s.data.toList).getD []) ∧ Below w.heap.size w w'

theorem own_empty (w : World) (base : Nat) (h : base ≤ w.heap.size) : Own (w.alloc (.cells #[] 9)) base (.slice (some ⟨w.heap.size, 0, none⟩) 0 0) [] :=
  World.ownsRow_made _ _ _ h (by unfold maxLen; omega) rfl

theorem poOut_none {s : ByteArray} {w w' : World} {v : Value} (h : poR s.data.toList = none) (hown : Own w' w.heap.size v []) (hb : Below w.heap.size w w') : PoOut s w (.returned (.tuple #[v, .bool false])) w' :=
  ⟨v, by rw [h]; rfl, by rw [h]; exact hown, hb⟩
theorem poOut_some {s : ByteArray} {w w' : World} {v : Value} {ss : List ByteArray} (h : poR s.data.toList = some ss) (hown : Own w' w.heap.size v ss) (hb : Below w.heap.size w w') : PoOut s w (.returned (.tuple #[v, .bool true])) w' :=
  ⟨v, by rw [h]; rfl, by rw [h]; exact hown, hb⟩

theorem sPartsOf_long (s : ByteArray) (hs : 600 < s.size) (w : World) : Calls Tryd.prog 10 #[.string s] w (PoOut s w) := by
  have HO : Hid (poR s.data.toList = none) := poR_long _ (by simpa using hs)
  go_enter Tryd.func10, Tryd.ntmps10
  go_wp2
  go_ret2
  exact poOut_none HO.out (own_empty w _ (Nat.le_refl _)) ((Below.refl _ _).alloc (Nat.le_refl _) _)

theorem below_app9 {B : Nat} {w wr w1 : World} {v : Value} {n : Nat} {xs : List Value} {o : Obj} (hb : Below B w wr) (hB : B ≤ w.heap.size)
    (hown : wr.ownsRow B 9 1 v n xs) (hg : (wr.alloc o).grownBy w1 v.ownBlock) : Below B w w1 :=
  (hb.alloc (by have := hb.size; omega) _).grown hg (by have := hb.size; simp; omega) (fun k hk => (hown.lt k hk).1)

/-- what is known of the loop at place k -/
def Lk (s : ByteArray) (k b : Nat) (o : List (List UInt8)) : Prop :=
  (Sp s.data.toList k b o ∧ plainB (s.data.toList.take k) = true) ∨ (s.size < k ∧ o = fields s.data.toList ∧ plainB s.data.toList = true)

theorem Lk.sp {s : ByteArray} {k b : Nat} {o : List (List UInt8)} (h : Lk s k b o) (hk : k ≤ s.size) : Sp s.data.toList k b o ∧ plainB (s.data.toList.take k) = true := by
  rcases h with h | h
  · exact h
  · omega

set_option maxRecDepth 100000 in
set_option maxHeartbeats 4000000 in
theorem sPartsOf_short (s : ByteArray) (hs : s.size ≤ 600) (w : World) : Calls Tryd.prog 10 #[.string s] w (PoOut s w) := by
  obtain ⟨i0, hi, hz0, hz1, hz2⟩ := info_parts info9
  have hlen : s.data.toList.length = s.size := by simp
  have HLen : Hid _ := hlen
  clear hlen
  have d0 : decide ((600 : Int) < (s.size : Int)) = false := by simp; omega
  go_enter Tryd.func10, Tryd.ntmps10
  go_wp2
  go_loopw [4, 5, 6] (fun out begin_ i wr => ∃ (k b n g cap : Nat) (o : List (List UInt8)), k ≤ s.size + 1 ∧ b ≤ k ∧ n ≤ k ∧ i = .int .i64 k ∧ begin_ = .int .i64 b ∧ out = .slice (some ⟨g, 0, none⟩) n cap ∧
      Hid (o.length = n) ∧ Hid (Lk s k b o) ∧ wr.ownsRow w.heap.size 9 1 (.slice (some ⟨g, 0, none⟩) n cap) n (wv o) ∧ Below w.heap.size w wr)
    (fun _ _ i _ => s.size + 1 - (intOf i).toNat)
  case atStart => exact ⟨0, 0, 0, w.heap.size, 0, [], by omega, by omega, by omega, rfl, rfl, rfl, rfl, .inl ⟨Sp.start _, rfl⟩, World.ownsRow_made _ _ _ (Nat.le_refl _) (by unfold maxLen; omega) rfl, (Below.refl _ _).alloc (Nat.le_refl _) _⟩
  case round =>
    obtain ⟨k, b, n, g, cap, o, hk, hbk, hnk, rfl, rfl, rfl, hon, hlk, hown, hb⟩ := hrel
    have hsz := hb.size
    by_cases hlt : k < s.size
    · have hsp := hlk.out.sp (by omega)
      have hc := UInt8.toNat_lt (s[k])
      have hkl : k < s.data.toList.length := by rw [HLen.out]; exact hlt
      have e0 : decide ((k : Int) < (s.size : Int)) = true := by simp; omega
      by_cases h1 : 32 ≤ (s[k]).toNat
      · have e1 : decide (((s[k]).toNat : Int) < 32) = false := by simp; omega
        by_cases h2 : (s[k]).toNat ≤ 126
        · have e2 : decide ((126 : Int) < ((s[k]).toNat : Int)) = false := by simp; omega
          have hpl : plainC (s.data.toList[k]'hkl) = true := by rw [pbyte s k hlt]; simp [plainC, h1, h2]
          have hp2 := plainB_take _ k hkl hsp.2 hpl
          by_cases h3 : 33 ≤ (s[k]).toNat
          · have e3 : (((s[k]).toNat : Int) != 32) = true := by simp; omega
            have HK : Hid (Lk s (k + 1) b o) := .inl ⟨hsp.1.char hkl (sp_plain _ hpl (by rw [pbyte s k hlt]; omega)), hp2⟩
            clear hsp hpl hp2 hlk
            go_wp2
            go_roundw
            case rel => exact ⟨k + 1, b, n, g, cap, o, by omega, by omega, by omega, by go_num, rfl, rfl, hon, HK, hown, hb⟩
            case measure => simp [intOf]; omega
          · have e3 : (((s[k]).toNat : Int) != 32) = false := by simp; omega
            have hbl := sp_blank (s.data.toList[k]'hkl) (by rw [pbyte s k hlt]; omega)
            by_cases h4 : b < k
            · have HK : Hid (Lk s (k + 1) (k + 1) (o ++ [(s.data.toList.drop b).take (k - b)])) := .inl ⟨hsp.1.blank_some hkl hbl h4, hp2⟩
              clear hsp hpl hp2 hlk hbl
              go_wp2_with (at_builtin; refine wpList_append_lies _ rfl _ _ 28 rfl w.heap.size 9 i0 (.string ⟨#[]⟩) 1 16 Tryd.underlying28 hi hz0 hz1 hz2 rfl (by decide) _ _ _ rfl (hown.alloc _) ⟨wr.heap.size, 0, none⟩ 1 1 [Value.string (s.extract b k)] rfl rfl (one_new _ _ _) (by intro u hu; simp at hu; subst hu; rfl) (by omega) (by unfold maxLen; omega) (by omega) (by simp; omega) (wr.heap.size + 1) (by simp) ?_)
              intro g1 cap1 w1 hown1 hg1 _ _
              have hb1 := below_app9 hb (Nat.le_refl _) hown hg1
              rw [wv_snoc o _ _ (cut_text s b k)] at hown1
              have HN : Hid ((o ++ [(s.data.toList.drop b).take (k - b)]).length = n + 1) := by show _ = _; rw [List.length_append, hon.out]; rfl
              clear hg1 hown hb
              go_wp2
              go_roundw
              case rel => exact ⟨k + 1, k + 1, n + 1, g1, cap1, _, by omega, by omega, by omega, by go_num, by go_num, rfl, HN, HK, hown1, hb1⟩
              case measure => simp [intOf]; omega
            · have HK : Hid (Lk s (k + 1) (k + 1) o) := .inl ⟨hsp.1.blank_none hkl hbl h4, hp2⟩
              clear hsp hpl hp2 hlk hbl
              go_wp2
              go_roundw
              case rel => exact ⟨k + 1, k + 1, n, g, cap, o, by omega, by omega, by omega, by go_num, by go_num, rfl, hon, HK, hown, hb⟩
              case measure => simp [intOf]; omega
        · have e2 : decide ((126 : Int) < ((s[k]).toNat : Int)) = true := by simp; omega
          have HO : Hid (poR s.data.toList = none) := poR_bad _ (plainB_bad _ k hkl (by rw [pbyte s k hlt]; simp [plainC]; omega))
          clear hsp hlk
          go_wp2
          go_ret2
          exact poOut_none HO.out (own_empty _ _ hsz) (hb.alloc hsz _)
      · have e1 : decide (((s[k]).toNat : Int) < 32) = true := by simp; omega
        have HO : Hid (poR s.data.toList = none) := poR_bad _ (plainB_bad _ k hkl (by rw [pbyte s k hlt]; simp [plainC]; omega))
        clear hsp hlk
        go_wp2
        go_ret2
        exact poOut_none HO.out (own_empty _ _ hsz) (hb.alloc hsz _)
    · have e0 : decide ((k : Int) < (s.size : Int)) = false := by simp; omega
      by_cases hle : k ≤ s.size
      · have hsp := hlk.out.sp hle
        have hkl : ¬ k < s.data.toList.length := by rw [HLen.out]; exact hlt
        have hpl : plainB s.data.toList = true := by have := hsp.2; rw [List.take_of_length_le (by omega)] at this; exact this
        by_cases h4 : b < k
        · have HK : Hid (Lk s (k + 1) (k + 1) (o ++ [(s.data.toList.drop b).take (k - b)])) := .inr ⟨by omega, hsp.1.end_some hkl h4, hpl⟩
          clear hsp hpl hlk
          go_wp2_with (at_builtin; refine wpList_append_lies _ rfl _ _ 28 rfl w.heap.size 9 i0 (.string ⟨#[]⟩) 1 16 Tryd.underlying28 hi hz0 hz1 hz2 rfl (by decide) _ _ _ rfl (hown.alloc _) ⟨wr.heap.size, 0, none⟩ 1 1 [Value.string (s.extract b k)] rfl rfl (one_new _ _ _) (by intro u hu; simp at hu; subst hu; rfl) (by omega) (by unfold maxLen; omega) (by omega) (by simp; omega) (wr.heap.size + 1) (by simp) ?_)
          intro g1 cap1 w1 hown1 hg1 _ _
          have hb1 := below_app9 hb (Nat.le_refl _) hown hg1
          rw [wv_snoc o _ _ (cut_text s b k)] at hown1
          have HN : Hid ((o ++ [(s.data.toList.drop b).take (k - b)]).length = n + 1) := by show _ = _; rw [List.length_append, hon.out]; rfl
          clear hg1 hown hb
          go_wp2
          go_roundw
          case rel => exact ⟨k + 1, k + 1, n + 1, g1, cap1, _, by omega, by omega, by omega, by go_num, by go_num, rfl, HN, HK, hown1, hb1⟩
          case measure => simp [intOf]; omega
        · have HK : Hid (Lk s (k + 1) (k + 1) o) := .inr ⟨by omega, hsp.1.end_none hkl h4, hpl⟩
          clear hsp hpl hlk
          go_wp2
          go_roundw
          case rel => exact ⟨k + 1, k + 1, n, g, cap, o, by omega, by omega, by omega, by go_num, by go_num, rfl, hon, HK, hown, hb⟩
          case measure => simp [intOf]; omega
      · have hend : o = fields s.data.toList ∧ plainB s.data.toList = true := by
          rcases hlk.out with h | h
          · have := h.1.le; rw [HLen.out] at this; omega
          · exact h.2
        have HE : Hid _ := hend
        clear hend hlk
        by_cases h10 : 10 < n
        · have HO : Hid (poR s.data.toList = none) := poR_many _ (by rw [← HE.out.1, hon.out]; exact h10)
          go_wp2
          go_ret2
          exact poOut_none HO.out (own_empty _ _ hsz) (hb.alloc hsz _)
        · go_wp2
          go_ret2
          refine poOut_some (poR_yes _ (by rw [HLen.out]; omega) HE.out.2 (by rw [← HE.out.1, hon.out]; omega)) ?_ hb
          have hown2 := hown
          rw [HE.out.1] at hown2
          have hln : ((fields s.data.toList).map mkB).length = n := by rw [List.length_map, ← HE.out.1]; exact hon.out
          show World.ownsRow _ _ _ _ _ _ _
          rw [hln]
          exact hown2

theorem pclone_any (s : ByteArray) (h : s.size ≤ 1048576) (w : World) :
    Calls Tryd.prog 44 #[.string s] w fun e w' => e = .returned (.string s) ∧ Below w.heap.size w w' := by
  go_enter Tryd.func44, Tryd.ntmps44
  go_wp2_with (go_at_call 54; refine (Tryd.stringslite_Clone s _ (by omega)).mono ?_; rintro e w1 ⟨rfl, hb1⟩)
  go_ret
  exact ⟨rfl, hb1⟩

theorem own_nil (w : World) (base : Nat) : Own w base (.slice none 0 0) [] := World.ownsRow_nil _ _ _ _

theorem iPartsOf_long (s : ByteArray) (hs : 600 < s.size) (w : World) : Calls Tryd.prog 28 #[.string s] w (PoOut s w) := by
  have HO : Hid (poR s.data.toList = none) := poR_long _ (by simpa using hs)
  have d0 : decide ((600 : Int) < (s.size : Int)) = true := by simp; omega
  go_enter Tryd.func28, Tryd.ntmps28
  go_wp2
  go_ret2
  exact poOut_none HO.out (own_nil _ _) (Below.refl _ _)

theorem iPartsOf_bad (s : ByteArray) (hs : s.size ≤ 600) (hp : plainB s.data.toList = false) (w : World) : Calls Tryd.prog 28 #[.string s] w (PoOut s w) := by
  have HO : Hid (poR s.data.toList = none) := poR_bad _ hp
  have d0 : decide ((600 : Int) < (s.size : Int)) = false := by simp; omega
  have HP : Hid (∀ w : World, Calls Tryd.prog 42 #[.string s] w fun e w' => e = .returned (.bool false) ∧ w = w') := fun w => by
    have := isPlain_any s (by omega) w
    rw [hp] at this
    exact this.mono fun _ _ h => ⟨h.1, h.2.symm⟩
  clear hp
  go_enter Tryd.func28, Tryd.ntmps28
  go_wp2_with (go_at_call 42; refine (HP.out _).mono ?_; rintro e w1 ⟨rfl, hw1⟩; subst hw1)
  go_ret2
  exact poOut_none HO.out (own_nil _ _) (Below.refl _ _)

theorem plain_ascii (l : List UInt8) (h : plainB l = true) : ∀ (j : Nat) b, l[j]? = some b → b.toNat < 128 := by
  intro j b hb
  have hm := List.mem_of_getElem? hb
  have := List.all_eq_true.1 h b hm
  unfold plainC at this
  have := of_decide_eq_true this
  omega

theorem field_small (l : List UInt8) : ∀ (r cur : List UInt8) (x : List UInt8), x ∈ Go.Lib.fieldsGo cur r → x.length ≤ cur.length + r.length
  | [], cur, x, hx => by
    unfold Go.Lib.fieldsGo at hx
    split at hx
    · cases hx
    · simp at hx; subst hx; simp
  | b :: r, cur, x, hx => by
    rw [Go.Lib.fieldsGo] at hx
    split at hx
    · split at hx
      · have := field_small l r [] x hx
        simp at this ⊢
        omega
      · rcases List.mem_cons.1 hx with h | h
        · subst h; simp
        · have := field_small l r [] x h
          simp at this ⊢
          omega
    · have := field_small l r (cur ++ [b]) x hx
      simp at this ⊢
      omega

theorem fields_few : ∀ (r cur : List UInt8), (Go.Lib.fieldsGo cur r).length ≤ r.length + 1
  | [], cur => by
    unfold Go.Lib.fieldsGo
    split <;> simp
  | b :: r, cur => by
    rw [Go.Lib.fieldsGo]
    split
    · split
      · have := fields_few r []
        simp
        omega
      · have := fields_few r []
        simp
        omega
    · have := fields_few r (cur ++ [b])
      simp
      omega

theorem set_self {xs : List Value} {j : Nat} {u : Value} (h : xs[j]? = some u) : xs.set j u = xs := by
  apply List.ext_getElem?
  intro t
  by_cases e : t = j
  · subst e
    rw [List.getElem?_set_self (by obtain ⟨hl, _⟩ := List.getElem?_eq_some_iff.1 h; exact hl), h]
  · rw [List.getElem?_set_ne (by omega)]

set_option maxRecDepth 100000 in
set_option maxHeartbeats 4000000 in
theorem iPartsOf_plain (s : ByteArray) (hs : s.size ≤ 600) (hp : plainB s.data.toList = true) (w : World) (htab : Lib.TabIs Tryd.prog w "strings.asciiSpace" .u8 Lib.asciiSpaceTab) :
    Calls Tryd.prog 28 #[.string s] w (PoOut s w) := by
  have hlen : s.data.toList.length = s.size := by simp
  have d0 : decide ((600 : Int) < (s.size : Int)) = false := by simp; omega
  have HP : Hid (∀ w : World, Calls Tryd.prog 42 #[.string s] w fun e w' => e = .returned (.bool true) ∧ w = w') := fun w => by
    have := isPlain_any s (by omega) w
    rw [hp] at this
    exact this.mono fun _ _ h => ⟨h.1, h.2.symm⟩
  obtain ⟨L, hL⟩ : ∃ L, L = fields s.data.toList := ⟨_, rfl⟩
  obtain ⟨n, hn⟩ : ∃ n, n = L.length := ⟨_, rfl⟩
  have hsmall : ∀ x ∈ L, x.length ≤ s.size := by
    rw [hL]
    intro x hx
    have := field_small [] _ _ x hx
    simp at this
    omega
  have HF : Hid (Calls Tryd.prog 43 #[.string s] w fun e w' => e = .returned (.slice (some ⟨w.heap.size, 0, none⟩) n n) ∧ w.alloc (.cells (wv L).toArray 9) = w') := by
    have := Tryd.strings_Fields s w (by omega) (plain_ascii _ hp) htab
    rw [← hL, ← hn] at this
    exact this.mono fun _ _ h => ⟨h.1, by rw [h.2]; simp [wv]; rfl⟩
  have hn600 : n ≤ 1000000 := by
    have := fields_few s.data.toList []
    rw [hn, hL]
    show (Go.Lib.fieldsGo [] s.data.toList).length ≤ _
    omega
  have HR : Hid (n ≤ 10 → poR s.data.toList = some (L.map mkB)) := fun h => by rw [hL] at hn ⊢; exact poR_yes _ (by omega) hp (by omega)
  have HN : Hid (10 < n → poR s.data.toList = none) := fun h => by rw [hL] at hn; exact poR_many _ (by omega)
  have Hn : Hid (n = L.length) := hn
  have HS : Hid _ := hsmall
  clear hp htab hL hn hsmall hlen
  go_enter Tryd.func28, Tryd.ntmps28
  go_wp2_with (go_at_call 42; refine (HP.out _).mono ?_; rintro e w1 ⟨rfl, hw1⟩; subst hw1; refine Hid.out ?_)
  refine (show ∀ {p : Prop}, p → Hid p from fun h => h) ?_
  go_wp2_with (go_at_call 43; refine HF.out.mono ?_; rintro e w1 ⟨rfl, hw1⟩; subst hw1; refine Hid.out ?_)
  refine (show ∀ {p : Prop}, p → Hid p from fun h => h) ?_
  have hown0 : (w.alloc (.cells (wv L).toArray 9)).ownsRow w.heap.size 9 1 (.slice (some ⟨w.heap.size, 0, none⟩) n n) n (wv L) :=
    World.ownsRow_lit w (wv L).toArray n (Nat.le_refl _) (by unfold maxLen; omega) (by simp [wv, Hn.out])
  by_cases h10 : 10 < n
  · have HO : Hid _ := HN.out h10
    clear hown0
    go_wp2
    go_ret2
    exact poOut_none HO.out (own_nil _ _) ((Below.refl _ _).alloc (Nat.le_refl _) _)
  · have d1 : decide ((10 : Int) < (n : Int)) = false := by simp; omega
    have HO : Hid _ := HR.out (by omega)
    go_wp2
    go_loopw [22] (fun i wr => ∃ j : Nat, j ≤ n ∧ i = .int .i64 j ∧ wr.ownsRow w.heap.size 9 1 (.slice (some ⟨w.heap.size, 0, none⟩) n n) n (wv L) ∧ Below w.heap.size w wr) (fun i _ => n - (intOf i).toNat)
    case atStart => exact ⟨0, by omega, rfl, hown0, (Below.refl _ _).alloc (Nat.le_refl _) _⟩
    case round =>
      obtain ⟨j, hj, rfl, hown, hb⟩ := hrel
      clear hown0
      by_cases hlt : j < n
      · have hjL : j < L.length := by rw [← Hn.out]; exact hlt
        obtain ⟨S, hS⟩ : ∃ S, S = mkB (L[j]'hjL) := ⟨_, rfl⟩
        have hSs : S.size ≤ 1048576 := by
          have := HS.out _ (List.getElem_mem hjL)
          have e : S.size = (L[j]'hjL).length := by rw [hS]; simp [mkB, ByteArray.size]
          omega
        have hwv : (wv L)[j]? = some (.string S) := by rw [hS]; simp [wv, hjL]
        have hc0 : wr.cell? ⟨w.heap.size, j, none⟩ = some (.string S) := by rw [hown.cellAt j (by omega)]; exact hwv
        have HC : Hid (∀ w : World, Calls Tryd.prog 44 #[.string S] w fun e w' => e = .returned (.string S) ∧ Below w.heap.size w w') := fun w => pclone_any S hSs w
        have b1 : (0 : Int) ≤ (j : Int) := by omega
        have b2 : (j : Int) < (n : Int) := by omega
        have HW : Hid _ := hwv
        clear hS hwv
        go_wp2_with (go_at_call 44; refine (HC.out _).mono ?_; rintro e w1 ⟨rfl, hb1⟩; refine Hid.out ?_)
        refine (show ∀ {p : Prop}, p → Hid p from fun h => h) ?_
        have hown1 := World.ownsRow.kept hown (grown_of_below hb1 none) (by simp [Value.ownBlock])
        have hc1 : w1.cell? ⟨w.heap.size, j, none⟩ = some (.string S) := by rw [hown1.cellAt j (by omega)]; exact HW.out
        have hf1 := hown1.frozenAt j
        have HO1 : Hid ((w1.setCell ⟨w.heap.size, j, none⟩ (.string S)).ownsRow w.heap.size 9 1 (.slice (some ⟨w.heap.size, 0, none⟩) n n) n (wv L)) := by
          have := (hown1.stored j (.string S)).1
          rw [set_self HW.out] at this
          exact this
        have HB1 : Hid (Below w.heap.size w (w1.setCell ⟨w.heap.size, j, none⟩ (.string S))) := (hb.trans (hb1.mono hb.size)).setCell (Nat.le_refl _) _
        clear hown hown1 hb hb1 hc0
        go_wp2
        go_roundw
        case rel => exact ⟨j + 1, by omega, by go_num, HO1, HB1⟩
        case measure => simp [intOf]; omega
      · go_wp2
        go_ret2
        refine poOut_some HO.out ?_ hb
        show World.ownsRow _ _ _ _ _ _ _
        rw [List.length_map, ← Hn.out]
        exact hown

end Go.Proofs.YtgdlpmmbeacejaaDoor.C
