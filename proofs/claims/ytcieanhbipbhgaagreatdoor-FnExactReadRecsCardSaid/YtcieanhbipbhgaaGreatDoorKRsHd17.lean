/- What the law's second look at marked records says. -/
import Derived.Test.YtcieanhbipbhgaaGreatDoorKRsMk17
namespace Go.Proofs.YtcieanhbipbhgaaGreatDoor
open Go.RowKit Vt

set_option maxRecDepth 100000 in
set_option maxHeartbeats 16000000 in
theorem heldRecS_any (qs : List RQ) (B : Nat) (a : Option Addr) (m c : Nat) (hm : m ≤ 4000) (u : World) (h : RS u B a m c (mqs 1 qs)) :
    Calls Tryz.prog 8 #[.slice a m c, .int .i64 1] u fun e v => e = .returned (.int .i64 ((kqs 1 qs : Nat) : Int)) ∧ v = u := by
  have hlen : qs.length = m := by have := h.len; rw [mqs_len] at this; exact this
  have HQ := hideIt h
  have hkb0 : ∀ j, j ≤ m → kqs 1 (qs.take j) ≤ 1 + j * 511 := fun j hj => by
    have h2 : ∀ q ∈ qs, q.k1 ≤ 100 ∧ q.k2 ≤ 100 ∧ q.k3 ≤ 100 := fun q hq => by
      obtain ⟨i, hi⟩ := List.getElem?_of_mem hq
      have h3 := mqs_at qs 1 i q hi
      have h4 := (HQ.out.each _ (List.mem_of_getElem? h3)).1.bd
      exact h4
    have h5 := (kqs_le (qs.take j) 1 (fun q hq => h2 q (List.mem_of_mem_take hq))).2
    rw [List.length_take, Nat.min_eq_left (by omega)] at h5
    exact h5
  have HKB := hideIt hkb0
  clear h hkb0
  go_enter Tryz.func8, Tryz.ntmps8
  go_wp2
  go_loopw [1, 5] (fun kk i wr => ∃ (j k : Nat), j ≤ m ∧ i = .int .i64 (j : Int) ∧ kk = .int .i64 (k : Int) ∧ Hid (k = kqs 1 (qs.take j)) ∧ k ≤ 1 + j * 511 ∧ wr = u) (fun _ i _ => m - (intOf i).toNat)
  case atStart => exact ⟨0, 1, by omega, rfl, rfl, rfl, by omega, rfl⟩
  case round =>
    obtain ⟨j, k, hj, rfl, rfl, hk, hkb, hw⟩ := hrel
    have hw' := hw.symm
    subst hw'
    clear hw
    by_cases hlt : j < m
    · obtain ⟨q, hq⟩ : ∃ f, qs[j]? = some f := ⟨qs[j]'(by omega), List.getElem?_eq_getElem (by omega)⟩
      have hqm := mqs_at qs 1 j q hq
      rw [← hk.out] at hqm
      have hqt : qs.take (j + 1) = qs.take j ++ [q] := by
        obtain ⟨hk', rfl⟩ := List.getElem?_eq_some_iff.1 hq
        rw [List.take_succ_eq_append_getElem hk']
      have hms := (mqs_snoc (qs.take j) q 1).2
      rw [← hqt, ← hk.out] at hms
      have hnb := HKB.out (j + 1) (by omega)
      rw [hms] at hnb
      have HMS := hideIt hms
      have hqo := (HQ.out.each _ (List.mem_of_getElem? hqm)).1
      obtain ⟨g, rfl, hgl⟩ := HQ.out.row_of hqm
      have hbq : q.k1 ≤ 100 ∧ q.k2 ≤ 100 ∧ q.k3 ≤ 100 := hqo.bd
      obtain ⟨K1, hK1⟩ : ∃ K1, K1 = k + 8 + q.k1 * 2 := ⟨_, rfl⟩
      obtain ⟨K2, hK2⟩ : ∃ K2, K2 = k + 8 + q.k1 * 2 + q.k2 := ⟨_, rfl⟩
      obtain ⟨K3, hK3⟩ : ∃ K3, K3 = k + 8 + q.k1 * 2 + q.k2 + 2 + q.k3 * 2 := ⟨_, rfl⟩
      obtain ⟨b, hb⟩ : ∃ b, decide (((k : Int) + 1 + 1 + 1 + 1 + 1 + 1 + 1) % 3 = 0) = b := ⟨_, rfl⟩
      have dB : ((((k : Int) + 1 + 1 + 1 + 1 + 1 + 1 + 1) % 3) == 0) = b := by rw [← hb]; rfl
      have c0 : u.cell? ⟨g, j * 14, none⟩ = some (.int .i64 ((k : Int))) := by exact HQ.out.cell hqm 0 (by omega)
      have c1 : u.cell? ⟨g, j * 14 + 1, none⟩ = some (.int .i64 ((k : Int) + 1)) := by exact HQ.out.cell hqm 1 (by omega)
      have c2 : u.cell? ⟨g, j * 14 + 2, none⟩ = some (.int .i64 ((k : Int) + 1 + 1)) := by exact HQ.out.cell hqm 2 (by omega)
      have c3 : u.cell? ⟨g, j * 14 + 3, none⟩ = some (.int .i64 ((k : Int) + 1 + 1 + 1)) := by exact HQ.out.cell hqm 3 (by omega)
      have c4 : u.cell? ⟨g, j * 14 + 4, none⟩ = some (.int .i64 ((k : Int) + 1 + 1 + 1 + 1)) := by exact HQ.out.cell hqm 4 (by omega)
      have c5 : u.cell? ⟨g, j * 14 + 5, none⟩ = some (.int .i64 ((k : Int) + 1 + 1 + 1 + 1 + 1)) := by exact HQ.out.cell hqm 5 (by omega)
      have c6 : u.cell? ⟨g, j * 14 + 6, none⟩ = some (.int .i64 ((k : Int) + 1 + 1 + 1 + 1 + 1 + 1)) := by exact HQ.out.cell hqm 6 (by omega)
      have c7 : u.cell? ⟨g, j * 14 + 7, none⟩ = some (.bool b) := by rw [← hb]; exact HQ.out.cell hqm 7 (by omega)
      have c8 : u.cell? ⟨g, j * 14 + 8, none⟩ = some (.slice q.a1 q.k1 q.c1) := by exact HQ.out.cell hqm 8 (by omega)
      have c9 : u.cell? ⟨g, j * 14 + 9, none⟩ = some (.slice q.a2 q.k2 q.c2) := by exact HQ.out.cell hqm 9 (by omega)
      have c10 : u.cell? ⟨g, j * 14 + 10, none⟩ = some (.int .i64 (K2 : Int)) := by rw [hK2]; exact HQ.out.cell hqm 10 (by omega)
      have c11 : u.cell? ⟨g, j * 14 + 11, none⟩ = some (.int .i64 ((K2 : Int) + 1)) := by rw [hK2]; exact HQ.out.cell hqm 11 (by omega)
      have c12 : u.cell? ⟨g, j * 14 + 12, none⟩ = some (.slice q.a3 q.k3 q.c3) := by exact HQ.out.cell hqm 12 (by omega)
      have c13 : u.cell? ⟨g, j * 14 + 13, none⟩ = some (.int .i64 (K3 : Int)) := by rw [hK3]; exact HQ.out.cell hqm 13 (by omega)
      have z1 : K1 ≤ 4000000 := by omega
      have z2 : K2 ≤ 4000000 := by omega
      have z3 : K3 ≤ 4000000 := by omega
      have z4 : K3 + 1 ≤ 1 + (j + 1) * 511 := by omega
      have HE1 : Hid (Calls Tryz.prog 17 #[.slice q.a1 q.k1 q.c1, .int .i64 ((k : Int) + 1 + 1 + 1 + 1 + 1 + 1 + 1 + 1)] u fun e v => e = .returned (.int .i64 (K1 : Int)) ∧ v = u) := by
        have h1 := heldEdgeS_any q.k1 (k + 8) q.a1 q.c1 (by omega) (by omega) u (Es_of_own hqo.r1)
        rw [show ((k + 8 : Nat) : Int) = (k : Int) + 1 + 1 + 1 + 1 + 1 + 1 + 1 + 1 by omega] at h1
        exact h1.mono fun e v h2 => ⟨by rw [h2.1]; congr 2; omega, h2.2⟩
      have HE2 : Hid (Calls Tryz.prog 18 #[.slice q.a2 q.k2 q.c2, .int .i64 (K1 : Int)] u fun e v => e = .returned (.int .i64 (K2 : Int)) ∧ v = u) := by
        have h0 : Is u u.heap.size q.a2 q.k2 (imarks K1 q.k2) := by rw [hK1]; exact Is_of_own hqo.r2
        exact (heldIntS_any q.k2 K1 q.a2 q.c2 (by omega) (by omega) u h0).mono fun e v h2 => ⟨by rw [h2.1]; congr 2; omega, h2.2⟩
      have HE3 : Hid (Calls Tryz.prog 17 #[.slice q.a3 q.k3 q.c3, .int .i64 ((K2 : Int) + 1 + 1)] u fun e v => e = .returned (.int .i64 (K3 : Int)) ∧ v = u) := by
        have h0 : Es u u.heap.size q.a3 q.k3 (marks (K2 + 2) q.k3) := by rw [hK2]; exact Es_of_own hqo.r3
        have h1 := heldEdgeS_any q.k3 (K2 + 2) q.a3 q.c3 (by omega) (by omega) u h0
        rw [show ((K2 + 2 : Nat) : Int) = (K2 : Int) + 1 + 1 by omega] at h1
        exact h1.mono fun e v h2 => ⟨by rw [h2.1]; congr 2; omega, h2.2⟩
      have HN : Hid (K3 + 1 = kqs 1 (qs.take (j + 1))) := by
        show _ = _
        rw [HMS.out, hK3]
        rfl
      have d1 : decide ((K1 : Int) < 0) = false := by rw [decide_eq_false_iff_not]; omega
      have d2 : decide ((K2 : Int) < 0) = false := by rw [decide_eq_false_iff_not]; omega
      have d3 : decide ((K3 : Int) < 0) = false := by rw [decide_eq_false_iff_not]; omega
      have b1 : (0 : Int) ≤ (j : Int) := by omega
      have b2 : (j : Int) < (m : Int) := by omega
      clear hqo hqm hqt hms HMS hq hk hK1 hK2 hK3 hb hnb
      cases b
      all_goals
        go_wp2_with (first
          | (go_at_call 17; refine HE1.out.mono ?_; clear HE1; rintro e w9 ⟨rfl, rfl⟩)
          | (go_at_call 18; refine HE2.out.mono ?_; clear HE2; rintro e w9 ⟨rfl, rfl⟩)
          | (go_at_call 17; refine HE3.out.mono ?_; clear HE3; rintro e w9 ⟨rfl, rfl⟩))
        exact ⟨⟨j + 1, K3 + 1, by omega, by go_num, by go_num, HN, by omega, by first | trivial | rfl⟩, by simp [intOf]; omega⟩
    · obtain rfl : j = m := by omega
      have h1 : qs.take j = qs := List.take_of_length_le (by omega)
      have HN : Hid (k = kqs 1 qs) := by
        have q2 := hk.out
        rw [h1] at q2
        exact q2
      clear h1 hk
      go_wp2
      go_ret
      exact ⟨by rw [← HN.out]; rfl, rfl⟩
end Go.Proofs.YtcieanhbipbhgaaGreatDoor
