/- Shorter words for what every walk of a drawn region says. Bytes in memory of the call's own. Plain mathematics on numbers in bytes: no program is named here. Plain mathematics on reading a number out of bytes: no program is named here. What the program's ReadVar answers at every text and place. A number's shortest form is read back. -/
import Derived.Deep.RegionHeld3
import Derived.KernelRfl
import Derived.RowKit
import Derived.Test.YtnagchanokbgdaaGreatProg
import GoSem.Claim
import GoSem.ClaimJoined
import GoSem.ClaimMapViews
import Derived.JoinedTies
import Derived.WalkKit
import Derived.OwnWalk
import Derived.Laws.IdiomStrings
import Derived.WalkSpells
import Derived.BigQuiet
import Derived.Deep.QuietTactic
namespace Go.Proofs.YtnagchanokbgdaaGreat
open Go.RowKit

theorem pT0 : (∀ {α : Type} (xs : List α) (i : Nat) (x : α), xs.toArray.setIfInBounds i x = (xs.set i x).toArray) ∧ (∀ {α : Type} (xs : List α) (a b : α), (a :: xs).set 0 b = b :: xs) ∧ (∀ {α : Type} (xs : List α) (a b : α) (n : Nat), (a :: xs).set (n + 1) b = a :: xs.set n b) :=
  ⟨fun _ _ _ => List.setIfInBounds_toArray .., fun _ _ _ => rfl, fun _ _ _ _ => rfl⟩
theorem pS0 : (∀ {α : Type} (xs : List α) (i : Nat) (h : i < xs.toArray.size), xs.toArray[i] = xs[i]'(by simpa using h)) ∧ (∀ {α : Type} (a : α) (as : List α) (h : 0 < (a :: as).length), (a :: as)[0] = a) ∧ (∀ {α : Type} (a : α) (as : List α) (i : Nat) (h : i + 1 < (a :: as).length), (a :: as)[i + 1] = as[i]'(by simpa using h)) :=
  ⟨fun _ _ _ => by simp, fun _ _ _ => rfl, fun _ _ _ _ => rfl⟩
section
variable {P : Program} {md : Region.Mode} {ops : Array Oper} {Q : Exit → Go.Act → World → Prop} {S : World → Prop}
theorem tq0 {i : Nat} {oi : Oper} {v : Value} {fuel : Nat} {listed : Array Bool} {a : Go.Act} {w : World} (hi : ops[i]? = some oi) (hy : ∀ w, S w → (execOp a.eval oi).run P w = .ok (.value v) w) (hS : S w)
    (h : wpAnyH P md ops Q S fuel (listed.setIfInBounds i true) (a.put oi.dst v) w) (hs : Region.noSelect ops = true := by kernel_rfl) (hf : Region.free md ops listed i = true := by kernel_rfl) (hr : (Region.ready md ops listed).contains i = true := by kernel_rfl)
    (hQ : ∀ c a w, Q (.panic c) (a.put oi.dst v) w → Q (.panic c) a w := by exact fun _ _ _ h => h) (hw : Region.wanted oi (yielded ops a.tmps) = true := by rfl) : wpAnyH P md ops Q S (fuel + 1) listed a w :=
  wpAnyH_take hi hs hf hr hQ (.inl ⟨hw, hy⟩) hS h
end
end Go.Proofs.YtnagchanokbgdaaGreat
namespace Go.Proofs.YtnagchanokbgdaaGreat
open Go.RowKit
def bv (l:List UInt8):List Value:=l.map fun b=>Value.int .u8 (b.toNat:Int)
end Go.Proofs.YtnagchanokbgdaaGreat
namespace Go.Proofs.YtnagchanokbgdaaGreat.Vt
def vtF:Nat→Nat→List UInt8
 | 0,n=>[UInt8.ofNat n]
 | f+1,n=>if n<128 then [UInt8.ofNat n] else UInt8.ofNat (n % 128+128) :: vtF f (n / 128)
def vt (n:Nat):List UInt8:=vtF n n
end Go.Proofs.YtnagchanokbgdaaGreat.Vt
namespace Go.Proofs.YtnagchanokbgdaaGreat.Vt
def big (c:UInt8):Bool:=decide (128≤c.toNat)
def val:List UInt8→Nat
 | []=>0
 | c :: r=>c.toNat % 128+128*val r
def rv (a:Nat) (L:List UInt8):Option (Nat × Nat) :=
 match L.dropWhile big with
 | []=>none
 | c :: _ =>
  if (L.takeWhile big).length<5∧¬ (c.toNat=0∧0<(L.takeWhile big).length)∧val (L.takeWhile big ++ [c])≤1000000000 then some (val (L.takeWhile big ++ [c]),a+(L.takeWhile big).length+1) else none
end Go.Proofs.YtnagchanokbgdaaGreat.Vt
namespace Go.Proofs.YtnagchanokbgdaaGreat
open Go.RowKit Vt
end Go.Proofs.YtnagchanokbgdaaGreat
namespace Go.Proofs.YtnagchanokbgdaaGreat
open Go.RowKit Vt
end Go.Proofs.YtnagchanokbgdaaGreat
