/- The specification's lines of a text. The program's lines of a text: a range over its runes. -/
import Derived.Test.YtgdlpmmbeacejaaDoorKDecimalD
import Derived.Test.YtgdlpmmbeacejaaDoorKLn18
import Derived.Lib.OthersKept
namespace Go.Proofs.YtgdlpmmbeacejaaDoor.C
open Go.RowKit Words Lines

/-- what cuts a text into its lines answers -/
def LnOut (s : ByteArray) (w : World) (e : Ending) (w' : World) : Prop :=
  ∃ (g n c : Nat), e = .returned (.slice (some ⟨g, 0, none⟩) n c) ∧ (lns s.data.toList).length = n ∧ w'.ownsRow w.heap.size 9 1 (.slice (some ⟨g, 0, none⟩) n c) n (wv (lns s.data.toList)) ∧ Below w.heap.size w w'
theorem lnOut {s : ByteArray} {w w' : World} {g n c : Nat} {o : List (List UInt8)} (ho : o = lns s.data.toList) (hn : o.length = n) (hown : w'.ownsRow w.heap.size 9 1 (.slice (some ⟨g, 0, none⟩) n c) n (wv o)) (hb : Below w.heap.size w w') : LnOut s w (.returned (.slice (some ⟨g, 0, none⟩) n c)) w' := by
  subst ho
  exact ⟨g, n, c, rfl, hn, hown, hb⟩

set_option maxRecDepth 100000 in
set_option maxHeartbeats 4000000 in
theorem sLines_any (s : ByteArray) (hs : s.size ≤ 4000) (w : World) : Calls Tryd.prog 9 #[.string s] w (LnOut s w) := by
  obtain ⟨i0, hi, hz0, hz1, hz2⟩ := info_parts info9
  have hlen : s.data.toList.length = s.size := by simp
  have HLen : Hid _ := hlen
  clear hlen
  go_enter Tryd.func9, Tryd.ntmps9
  go_wp2
  go_loopw [3, 4, 5] (fun out begin_ i wr => ∃ (k b n g cap : Nat) (o : List (List UInt8)), k ≤ s.size ∧ b ≤ k ∧ n ≤ k ∧ i = .int .i64 k ∧ begin_ = .int .i64 b ∧ out = .slice (some ⟨g, 0, none⟩) n cap ∧
      Hid (o.length = n) ∧ Hid (Ln s.data.toList k b o) ∧ wr.ownsRow w.heap.size 9 1 (.slice (some ⟨g, 0, none⟩) n cap) n (wv o) ∧ Below w.heap.size w wr)
    (fun _ _ i _ => s.size - (intOf i).toNat)
  case atStart => exact ⟨0, 0, 0, w.heap.size, 0, [], by omega, by omega, by omega, rfl, rfl, rfl, rfl, Ln.start _, World.ownsRow_made _ _ _ (Nat.le_refl _) (by unfold maxLen; omega) rfl, (Below.refl _ _).alloc (Nat.le_refl _) _⟩
  case round =>
    obtain ⟨k, b, n, g, cap, o, hk, hbk, hnk, rfl, rfl, rfl, hon, hlk, hown, hb⟩ := hrel
    have hsz := hb.size
    by_cases hlt : k < s.size
    · have hkl : k < s.data.toList.length := by rw [HLen.out]; exact hlt
      have e0 : decide ((k : Int) < (s.size : Int)) = true := by simp; omega
      by_cases h1 : (s[k]).toNat = 10
      · have e1 : (((s[k]).toNat : Int) == 10) = true := by simp; omega
        have HK : Hid (Ln s.data.toList (k + 1) (k + 1) (o ++ [(s.data.toList.drop b).take (k - b)])) := hlk.out.nl hkl (by rw [pbyte s k hlt]; exact h1)
        clear hlk
        go_wp2_with (at_builtin; refine wpList_append_lies _ rfl _ _ 28 rfl w.heap.size 9 i0 (.string ⟨#[]⟩) 1 16 Tryd.underlying28 hi hz0 hz1 hz2 rfl (by decide) _ _ _ rfl (hown.alloc _) ⟨wr.heap.size, 0, none⟩ 1 1 [Value.string (s.extract b k)] rfl rfl (one_new _ _ _) (by intro u hu; simp at hu; subst hu; rfl) (by omega) (by unfold maxLen; omega) (by omega) (by simp; omega) (wr.heap.size + 1) (by simp) ?_)
        intro g1 cap1 w1 hown1 hg1 _ _
        have hb1 := below_app9 hb (Nat.le_refl _) hown hg1
        rw [wv_snoc o _ _ (cut_text s b k)] at hown1
        have HN : Hid ((o ++ [(s.data.toList.drop b).take (k - b)]).length = n + 1) := by show _ = _; rw [List.length_append, hon.out]; rfl
        clear hg1 hown hb
        go_wp2
        go_roundw
        case rel => exact ⟨k + 1, k + 1, n + 1, g1, cap1, _, by omega, by omega, by omega, by go_num, by go_num, rfl, HN, HK, hown1, hb1⟩
        case measure => simp [intOf]; omega
      · have e1 : (((s[k]).toNat : Int) == 10) = false := by simp; omega
        have HK : Hid (Ln s.data.toList (k + 1) b o) := hlk.out.char hkl (by rw [pbyte s k hlt]; exact h1)
        clear hlk
        go_wp2
        go_roundw
        case rel => exact ⟨k + 1, b, n, g, cap, o, by omega, by omega, by omega, by go_num, rfl, rfl, hon, HK, hown, hb⟩
        case measure => simp [intOf]; omega
    · have e0 : decide ((k : Int) < (s.size : Int)) = false := by simp; omega
      obtain rfl : k = s.size := by omega
      by_cases h1 : b < s.size
      · have e1 : decide ((b : Int) < (s.size : Int)) = true := by simp; omega
        have HO : Hid (o ++ [(s.data.toList.drop b).take (s.size - b)] = lns s.data.toList) := hlk.out.endS (by rw [HLen.out]; omega) h1
        clear hlk
        go_wp2_with (at_builtin; refine wpList_append_lies _ rfl _ _ 28 rfl w.heap.size 9 i0 (.string ⟨#[]⟩) 1 16 Tryd.underlying28 hi hz0 hz1 hz2 rfl (by decide) _ _ _ rfl (hown.alloc _) ⟨wr.heap.size, 0, none⟩ 1 1 [Value.string (s.extract b s.size)] rfl rfl (one_new _ _ _) (by intro u hu; simp at hu; subst hu; rfl) (by omega) (by unfold maxLen; omega) (by omega) (by simp; omega) (wr.heap.size + 1) (by simp) ?_)
        intro g1 cap1 w1 hown1 hg1 _ _
        have hb1 := below_app9 hb (Nat.le_refl _) hown hg1
        rw [wv_snoc o _ _ (cut_text s b s.size)] at hown1
        have HN : Hid ((o ++ [(s.data.toList.drop b).take (s.size - b)]).length = n + 1) := by show _ = _; rw [List.length_append, hon.out]; rfl
        clear hg1 hown hb
        go_wp2
        go_ret
        exact lnOut HO.out HN.out hown1 hb1
      · have e1 : decide ((b : Int) < (s.size : Int)) = false := by simp; omega
        have HO : Hid (o = lns s.data.toList) := hlk.out.endN (by rw [HLen.out]; omega) h1
        clear hlk
        go_wp2
        go_ret
        exact lnOut HO.out hon.out hown hb
end Go.Proofs.YtgdlpmmbeacejaaDoor.C
namespace Go.Proofs.YtgdlpmmbeacejaaDoor.C
open Go.RowKit Words Lines

theorem own_it {w : World} {B e s n : Nat} {v : Value} {xs : List Value} (h : w.ownsRow B e s v n xs) {K : Nat} {S : ByteArray} {p : Nat} (hk : w.heap[K]? = some (.stringIter S p)) (p' : Nat) : (w.iterAt K S p').ownsRow B e s v n xs := by
  refine ⟨h.1, h.2.imp id ?_⟩
  rintro ⟨g, c, cur, rfl, hb, hg, rest⟩
  refine ⟨g, c, cur, rfl, hb, ?_, rest⟩
  rw [Lib.iterAt_other w K g S p' (fun e1 => by rw [e1, hk] at hg; cases hg)]
  exact hg
theorem it_ne {w : World} {B e s n : Nat} {v : Value} {xs : List Value} (h : w.ownsRow B e s v n xs) {K : Nat} {S : ByteArray} {p : Nat} (hk : w.heap[K]? = some (.stringIter S p)) : some K ≠ v.ownBlock := by
  intro e1
  rcases h.2 with ⟨rfl, _⟩ | ⟨g, c, cur, rfl, hb, hg, _⟩
  · simp [Value.ownBlock] at e1
  · simp [Value.ownBlock] at e1
    rw [← e1, hk] at hg
    cases hg
theorem it_lt {w : World} {K : Nat} {S : ByteArray} {p : Nat} (hk : w.heap[K]? = some (.stringIter S p)) : K < w.heap.size := (Array.getElem?_eq_some_iff.1 hk).1
theorem it_alloc {w : World} {K : Nat} {S : ByteArray} {p : Nat} (hk : w.heap[K]? = some (.stringIter S p)) (o : Obj) : (w.alloc o).heap[K]? = some (.stringIter S p) := (Lib.alloc_old w o K (it_lt hk)).trans hk
theorem it_pos {w : World} {K : Nat} {S : ByteArray} {p : Nat} (hk : w.heap[K]? = some (.stringIter S p)) : w.iterPos K = p := by simp [World.iterPos, hk]

set_option maxRecDepth 100000 in
set_option maxHeartbeats 4000000 in
theorem iLines_any (s : ByteArray) (hs : s.size ≤ 4000) (w : World) : Calls Tryd.prog 14 #[.string s] w (LnOut s w) := by
  obtain ⟨i0, hi, hz0, hz1, hz2⟩ := info_parts info9
  have hlen : s.data.toList.length = s.size := by simp
  have HLen : Hid _ := hlen
  clear hlen
  obtain ⟨W0, hW0⟩ : ∃ W0, W0 = (w.alloc (.cells #[] 9)).iter s 0 := ⟨_, rfl⟩
  have hit : W0.heap[w.heap.size + 1]? = some (.stringIter s 0) := by
    rw [hW0]
    have := World.iter_heap (w.alloc (.cells #[] 9)) s 0
    simpa using this
  have hown0 : W0.ownsRow w.heap.size 9 1 (.slice (some ⟨w.heap.size, 0, none⟩) 0 0) 0 (wv []) := by
    rw [hW0]
    exact (World.ownsRow_made (base := w.heap.size) (e := 9) (size := 1) w #[] 0 (Nat.le_refl _) (by unfold maxLen; omega) rfl).alloc _
  have hb0 : Below w.heap.size w W0 := by rw [hW0]; exact ((Below.refl _ _).alloc (Nat.le_refl _) _).alloc (by simp) _
  have HIt := hidIt hit
  have HOw := hidIt hown0
  have HB0 := hidIt hb0
  clear hit hown0 hb0
  go_enter Tryd.func14, Tryd.ntmps14
  go_upto_region 3 with fail
  rw [← hW0]
  clear hW0
  go_loopw [3, 4] (fun out from_ wr => ∃ (k b n g cap : Nat) (o : List (List UInt8)), k ≤ s.size ∧ b ≤ k ∧ n ≤ k ∧ from_ = .int .i64 b ∧ out = .slice (some ⟨g, 0, none⟩) n cap ∧
      Hid (o.length = n) ∧ Hid (Ln s.data.toList k b o) ∧ Hid (wr.heap[w.heap.size + 1]? = some (.stringIter s k)) ∧ Hid (wr.ownsRow w.heap.size 9 1 (.slice (some ⟨g, 0, none⟩) n cap) n (wv o)) ∧ Hid (Below w.heap.size w wr))
    (fun _ _ wr => s.size - wr.iterPos (w.heap.size + 1))
  case atStart => exact ⟨0, 0, 0, w.heap.size, 0, [], by omega, by omega, by omega, rfl, rfl, rfl, Ln.start _, HIt, HOw, HB0⟩
  case round =>
    obtain ⟨k, b, n, g, cap, o, hk, hbk, hnk, rfl, rfl, hon, hlk, hit, hown, hb⟩ := hrel
    clear HIt HOw HB0
    have hm := it_pos hit.out
    by_cases hlt : k < s.size
    · have hkl : k < s.data.toList.length := by rw [HLen.out]; exact hlt
      by_cases h1 : (s[k]).toNat = 10
      · have hnx : ∀ ty, (Instr.next (.pointer (some ⟨w.heap.size + 1, 0, none⟩)) true ty).run Tryd.prog wr = .ok (.tuple #[.bool true, .int .i64 (k : Int), .int .i32 10]) (wr.iterAt (w.heap.size + 1) s (k + 1)) := fun ty => by
          have := Lib.run_next_any_at (P := Tryd.prog) wr _ s k ty hit.out hlt
          rw [dec_ten s k hlt h1] at this
          exact this
        obtain ⟨u1, hu1⟩ : ∃ u1, u1 = wr.iterAt (w.heap.size + 1) s (k + 1) := ⟨_, rfl⟩
        have hown1 : u1.ownsRow w.heap.size 9 1 (.slice (some ⟨g, 0, none⟩) n cap) n (wv o) := by rw [hu1]; exact own_it hown.out hit.out _
        have hit1 : u1.heap[w.heap.size + 1]? = some (.stringIter s (k + 1)) := by rw [hu1]; exact Lib.iterAt_heap wr _ s k (k + 1) hit.out
        have hb1 : Below w.heap.size w u1 := by rw [hu1]; exact Lib.below_iterAt hb.out (by omega) _ _
        rw [← hu1] at hnx
        have hsz := hb1.size
        have HK : Hid (Ln s.data.toList (k + 1) (k + 1) (o ++ [(s.data.toList.drop b).take (k - b)])) := hlk.out.nl hkl (by rw [pbyte s k hlt]; exact h1)
        clear hlk hu1 hown hb hit
        go_wp2_with (at_builtin; refine wpList_append_lies _ rfl _ _ 28 rfl w.heap.size 9 i0 (.string ⟨#[]⟩) 1 16 Tryd.underlying28 hi hz0 hz1 hz2 rfl (by decide) _ _ _ rfl (hown1.alloc _) ⟨u1.heap.size, 0, none⟩ 1 1 [Value.string (s.extract b k)] rfl rfl (one_new _ _ _) (by intro u hu; simp at hu; subst hu; rfl) (by omega) (by unfold maxLen; omega) (by omega) (by simp; omega) (u1.heap.size + 1) (by simp) ?_)
        intro g1 cap1 w1 hown2 hg2 _ _
        have hb2 := below_app9 hb1 (Nat.le_refl _) hown1 hg2
        have hit2 : w1.heap[w.heap.size + 1]? = some (.stringIter s (k + 1)) := (hg2.block _ (it_lt (it_alloc hit1 _)) (it_ne hown1 hit1)).trans (it_alloc hit1 _)
        rw [wv_snoc o _ _ (cut_text s b k)] at hown2
        have HN : Hid ((o ++ [(s.data.toList.drop b).take (k - b)]).length = n + 1) := by show _ = _; rw [List.length_append, hon.out]; rfl
        have HM : Hid (w1.iterPos (w.heap.size + 1) = k + 1) := it_pos hit2
        have H1 := hidIt hown2
        have H2 := hidIt hb2
        have H3 := hidIt hit2
        clear hg2 hown1 hb1 hown2 hb2 hit2 hit1 hnx
        go_wp2
        exact ⟨⟨k + 1, k + 1, n + 1, g1, cap1, _, by omega, by omega, by omega, by go_num, rfl, HN, HK, H3, H1, H2⟩, by rw [HM.out, hm]; omega⟩
      · obtain ⟨c, d, hd⟩ : ∃ c d, Utf8.decode s k = (c, d) := ⟨_, _, rfl⟩
        obtain ⟨q1, q2, q3, q4⟩ := dec_other s k hlt h1
        rw [hd] at q1 q2 q3 q4
        dsimp only at q1 q2 q3 q4
        have hnx : ∀ ty, (Instr.next (.pointer (some ⟨w.heap.size + 1, 0, none⟩)) true ty).run Tryd.prog wr = .ok (.tuple #[.bool true, .int .i64 (k : Int), .int .i32 (c : Int)]) (wr.iterAt (w.heap.size + 1) s (k + d)) := fun ty => by
          have := Lib.run_next_any_at (P := Tryd.prog) wr _ s k ty hit.out hlt
          rw [hd] at this
          exact this
        have e1 : ((c : Int) == 10) = false := by simp; omega
        obtain ⟨u1, hu1⟩ : ∃ u1, u1 = wr.iterAt (w.heap.size + 1) s (k + d) := ⟨_, rfl⟩
        have H1 : Hid (u1.ownsRow w.heap.size 9 1 (.slice (some ⟨g, 0, none⟩) n cap) n (wv o)) := by rw [hu1]; exact own_it hown.out hit.out _
        have hit1 : u1.heap[w.heap.size + 1]? = some (.stringIter s (k + d)) := by rw [hu1]; exact Lib.iterAt_heap wr _ s k (k + d) hit.out
        have H2 : Hid (Below w.heap.size w u1) := by rw [hu1]; exact Lib.below_iterAt hb.out (by omega) _ _
        have HM : Hid (u1.iterPos (w.heap.size + 1) = k + d) := it_pos hit1
        have H3 := hidIt hit1
        rw [← hu1] at hnx
        have HK : Hid (Ln s.data.toList (k + d) b o) := hlk.out.chars d k (by rw [HLen.out]; exact q3) (fun j hj a1 a2 => by
          have hj' : j < s.size := by rw [HLen.out] at hj; exact hj
          rw [pbyte s j hj']; exact q4 j hj' a1 a2)
        have HQ : Hid (k + d ≤ s.size ∧ 1 ≤ d) := ⟨q3, q2⟩
        clear hlk hu1 hown hb hit hd q4 q3 q2 q1 hit1
        go_wp2
        exact ⟨⟨k + d, b, n, g, cap, o, HQ.out.1, by omega, by omega, rfl, rfl, hon, HK, H3, H1, H2⟩, by rw [HM.out, hm]; have := HQ.out; omega⟩
    · have hne : ∀ ty, (Instr.next (.pointer (some ⟨w.heap.size + 1, 0, none⟩)) true ty).run Tryd.prog wr = .ok (.tuple #[.bool false]) wr := fun ty => Lib.run_next_end_at wr _ s k ty hit.out hlt
      obtain rfl : k = s.size := by omega
      have hown1 := hown.out
      have hb1 := hb.out
      have hsz := hb1.size
      clear hown hb hit
      by_cases h1 : b < s.size
      · have e1 : decide ((b : Int) < (s.size : Int)) = true := by simp; omega
        have HO : Hid (o ++ [(s.data.toList.drop b).take (s.size - b)] = lns s.data.toList) := hlk.out.endS (by rw [HLen.out]; omega) h1
        clear hlk
        go_wp2_with (at_builtin; refine wpList_append_lies _ rfl _ _ 28 rfl w.heap.size 9 i0 (.string ⟨#[]⟩) 1 16 Tryd.underlying28 hi hz0 hz1 hz2 rfl (by decide) _ _ _ rfl (hown1.alloc _) ⟨wr.heap.size, 0, none⟩ 1 1 [Value.string (s.extract b s.size)] rfl rfl (one_new _ _ _) (by intro u hu; simp at hu; subst hu; rfl) (by omega) (by unfold maxLen; omega) (by omega) (by simp; omega) (wr.heap.size + 1) (by simp) ?_)
        intro g1 cap1 w1 hown2 hg2 _ _
        have hb2 := below_app9 hb1 (Nat.le_refl _) hown1 hg2
        rw [wv_snoc o _ _ (cut_text s b s.size)] at hown2
        have HN : Hid ((o ++ [(s.data.toList.drop b).take (s.size - b)]).length = n + 1) := by show _ = _; rw [List.length_append, hon.out]; rfl
        clear hg2 hown1 hb1
        go_wp2
        go_ret
        exact lnOut HO.out HN.out hown2 hb2
      · have e1 : decide ((b : Int) < (s.size : Int)) = false := by simp; omega
        have HO : Hid (o = lns s.data.toList) := hlk.out.endN (by rw [HLen.out]; omega) h1
        clear hlk
        go_wp2
        go_ret
        exact lnOut HO.out hon.out hown1 hb1
end Go.Proofs.YtgdlpmmbeacejaaDoor.C
