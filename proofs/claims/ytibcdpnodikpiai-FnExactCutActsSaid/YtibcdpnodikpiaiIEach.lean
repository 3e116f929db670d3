/- What the program's doEach and DoActs make. -/
import Derived.Test.YtibcdpnodikpiaiITDisk
import Derived.Test.YtibcdpnodikpiaiRun
namespace Go.Proofs.Ytibcdpnodikpiai
open Go.RowKit Go.WideMaps Go.Maps

set_option maxRecDepth 100000 in
set_option maxHeartbeats 4000000 in
theorem tDoEach_any (W : World) (B M : Nat) (loc : ByteArray → Nat) (fs : List FileV) (D : DataW Unit) (T : Tab W B M loc fs D) (hd : DiskR fs) (xs : List ActV) (hx : FitsA xs) (n : Nat) (a : Option Addr) (c : Nat) (hn : n ≤ 1048576) (h : As W B a n xs) :
    Calls Try.prog 47 #[.map (some M), .slice a n c] W fun e w' => e = .returned (.int .i64 ((runActs fs xs).2 : Int)) ∧ (∃ loc' D', Tab w' B M loc' (runActs fs xs).1 D') ∧ Below B W w' := by
  obtain ⟨hlen, hrow⟩ := h
  have HR := hideIt hrow
  have HX := hideIt hx
  have HT := hideIt T
  have HDR := hideIt hd
  have hB := T.base_le
  clear T hd hrow hx
  generalize hP : runActs fs xs = P
  have HP := hideIt hP
  clear hP
  go_enter Try.func47, Try.ntmps47
  go_wp2
  go_loopw [9] (fun i wr => ∃ (k : Nat) (gs : List FileV), k ≤ n ∧ i = .int .i64 (k : Int) ∧ Hid (Ran fs xs k gs ∧ DiskR gs ∧ ∃ loc D, Tab wr B M loc gs D) ∧ Below B W wr) (fun i _ => n - (intOf i).toNat)
  case atStart => exact ⟨0, fs, by omega, rfl, ⟨Ran.start _ _, HDR.out, loc, D, HT.out⟩, Below.refl _ _⟩
  case round =>
    obtain ⟨k, gs, hk, rfl, hI, hb⟩ := hrel
    have hsz := hb.size
    by_cases hlt : k < n
    · rcases HR.out with hz | ⟨b, off, rfl, hbl, hc⟩
      · omega
      · obtain ⟨x, hf⟩ : ∃ f, xs[k]? = some f := ⟨xs[k]'(by omega), List.getElem?_eq_getElem (by omega)⟩
        obtain ⟨c0, c1, c2, c3⟩ := hc k x hf
        have e0 : wr.cell? ⟨b, off + k * 4, none⟩ = some (.int .i64 x.kind) := by rw [hb.cell hbl]; exact c0
        have e1 : wr.cell? ⟨b, off + k * 4 + 1, none⟩ = some (.string x.name) := by rw [hb.cell hbl]; exact c1
        have e2 : wr.cell? ⟨b, off + k * 4 + 2, none⟩ = some (.string x.text) := by rw [hb.cell hbl]; exact c2
        have e3 : wr.cell? ⟨b, off + k * 4 + 3, none⟩ = some (.string x.to) := by rw [hb.cell hbl]; exact c3
        have b1 : (0 : Int) ≤ (k : Int) := by omega
        have b2 : (k : Int) < (n : Int) := by omega
        have hbw : b < wr.heap.size := by omega
        obtain ⟨hran, hdg, loc1, D1, T1⟩ := hI.out
        have H := hideIt (tDo_any _ B M loc1 gs D1 (T1.alloc (.cells #[.int .i64 x.kind, .string x.name, .string x.text, .string x.to] 35)) hdg x (HX.out x (List.mem_of_getElem? hf)))
        have K := hideIt (hb.alloc (by omega) (.cells #[.int .i64 x.kind, .string x.name, .string x.text, .string x.to] 35))
        cases ho : doAct gs x with
        | none =>
          have HE : Hid (P = (gs, k)) := by show P = (gs, k); rw [← HP.out]; exact hran.stop hf ho
          rw [ho] at H
          unfold Done at H
          clear hc c0 c1 c2 c3 hf hI hran hdg T1 ho
          go_wp2_with (go_at_call 41; refine H.out.mono ?_; rintro e w1 ⟨rfl, hT1, hb1⟩)
          go_ret
          rw [HE.out]
          exact ⟨rfl, hT1, K.out.trans hb1⟩
        | some hs =>
          have HE : Hid (Ran fs xs (k + 1) hs ∧ DiskR hs) := ⟨hran.step hf ho, doAct_disk ho⟩
          rw [ho] at H
          unfold Done at H
          clear hc c0 c1 c2 c3 hf hI hran hdg T1 ho
          go_wp2_with (go_at_call 41; refine H.out.mono ?_; rintro e w1 ⟨rfl, hT1, hb1⟩)
          go_roundw
          case rel => exact ⟨k + 1, hs, by omega, by go_num, ⟨HE.out.1, HE.out.2, hT1⟩, K.out.trans hb1⟩
          case measure => simp [intOf]; omega
    · obtain rfl : k = n := by omega
      have HE : Hid (P = (gs, k)) := by
        show P = (gs, k)
        have := hI.out.1
        subst hlen
        rw [← HP.out]
        exact this.done
      have HT2 := hideIt hI.out.2.2
      clear hI
      go_wp2
      go_ret
      rw [HE.out]
      exact ⟨rfl, HT2.out, hb⟩
end Go.Proofs.Ytibcdpnodikpiai
