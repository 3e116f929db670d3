/- The program's words: what makes an event of numbers. -/
import Derived.Test.YtgdlpmmbeacejaaDoorKNm18
namespace Go.Proofs.YtgdlpmmbeacejaaDoor.C
open Go.RowKit Words Rd10

structure EvR where
  k : Int
  nd : Int
  t : Int
  i : Int
  o : Int
  a : Int
  b : Int
/-- an event's cells -/
abbrev ec (e : EvR) (cut : Bool) : Array Value := #[.int .i64 e.k, .int .i64 e.nd, .int .i64 e.t, .int .i64 e.i, .int .i64 e.o, .int .i64 e.a, .int .i64 e.b, .bool cut, .slice none 0 0]
abbrev ec0 : Array Value := #[.int .i64 0, .int .i64 0, .int .i64 0, .int .i64 0, .int .i64 0, .int .i64 0, .int .i64 0, .bool false, .slice none 0 0]

set_option maxRecDepth 100000 in
set_option maxHeartbeats 2000000 in
theorem askIt_any (op x y z : Int) (b off c b3 : Nat) (w : World) (hb : b < w.heap.size) (h0 : w.cell? ⟨b, off, none⟩ = some (.int .i64 x)) (h1 : w.cell? ⟨b, off + 1, none⟩ = some (.int .i64 y)) (h2 : w.cell? ⟨b, off + 2, none⟩ = some (.int .i64 z))
    (hb3 : b3 < w.heap.size) (h3 : w.cell? ⟨b3, 0, none⟩ = some (.int .i64 op)) :
    Calls Tryd.prog 39 #[.slice (some ⟨b, off, none⟩) 3 c, .pointer (some ⟨b3, 0, none⟩)] w fun e w' => e = .returned (.agg #[.int .i64 1, .int .i64 0, .int .i64 0, .int .i64 x, .int .i64 op, .int .i64 y, .int .i64 z, .bool false, .slice none 0 0]) ∧ Below w.heap.size w w' := by
  go_enter Tryd.func39, Tryd.ntmps39
  go_upto_region 1 with fail
  go_region
  all_goals go_wp2
  all_goals exact bodyPost_ret (v := .agg #[.int .i64 1, .int .i64 0, .int .i64 0, .int .i64 x, .int .i64 op, .int .i64 y, .int .i64 z, .bool false, .slice none 0 0]) (by simp [results, Tryd.results39, go_sem]) rfl ⟨rfl, ((Below.refl _ _).alloc (Nat.le_refl _) _).drew⟩
set_option maxRecDepth 100000 in
set_option maxHeartbeats 2000000 in
theorem packetIt_any (kd x : Int) (b off c b3 : Nat) (w : World) (hb : b < w.heap.size) (h0 : w.cell? ⟨b, off, none⟩ = some (.int .i64 x))
    (hb3 : b3 < w.heap.size) (h3 : w.cell? ⟨b3, 0, none⟩ = some (.int .i64 kd)) :
    Calls Tryd.prog 40 #[.slice (some ⟨b, off, none⟩) 1 c, .pointer (some ⟨b3, 0, none⟩)] w fun e w' => e = .returned (.agg #[.int .i64 kd, .int .i64 0, .int .i64 x, .int .i64 0, .int .i64 0, .int .i64 0, .int .i64 0, .bool false, .slice none 0 0]) ∧ Below w.heap.size w w' := by
  go_enter Tryd.func40, Tryd.ntmps40
  go_upto_region 1 with fail
  go_region
  all_goals go_wp2
  all_goals exact bodyPost_ret (v := .agg #[.int .i64 kd, .int .i64 0, .int .i64 x, .int .i64 0, .int .i64 0, .int .i64 0, .int .i64 0, .bool false, .slice none 0 0]) (by simp [results, Tryd.results40, go_sem]) rfl ⟨rfl, ((Below.refl _ _).alloc (Nat.le_refl _) _).drew⟩
set_option maxRecDepth 100000 in
set_option maxHeartbeats 2000000 in
theorem nodeIt_any (kd x : Int) (b off c b3 : Nat) (w : World) (hb : b < w.heap.size) (h0 : w.cell? ⟨b, off, none⟩ = some (.int .i64 x))
    (hb3 : b3 < w.heap.size) (h3 : w.cell? ⟨b3, 0, none⟩ = some (.int .i64 kd)) :
    Calls Tryd.prog 41 #[.slice (some ⟨b, off, none⟩) 1 c, .pointer (some ⟨b3, 0, none⟩)] w fun e w' => e = .returned (.agg #[.int .i64 kd, .int .i64 x, .int .i64 0, .int .i64 0, .int .i64 0, .int .i64 0, .int .i64 0, .bool false, .slice none 0 0]) ∧ Below w.heap.size w w' := by
  go_enter Tryd.func41, Tryd.ntmps41
  go_upto_region 1 with fail
  go_region
  all_goals go_wp2
  all_goals exact bodyPost_ret (v := .agg #[.int .i64 kd, .int .i64 x, .int .i64 0, .int .i64 0, .int .i64 0, .int .i64 0, .int .i64 0, .bool false, .slice none 0 0]) (by simp [results, Tryd.results41, go_sem]) rfl ⟨rfl, ((Below.refl _ _).alloc (Nat.le_refl _) _).drew⟩
end Go.Proofs.YtgdlpmmbeacejaaDoor.C
