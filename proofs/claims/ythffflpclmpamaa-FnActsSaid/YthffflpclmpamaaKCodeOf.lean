/- What FnKeeps looks at: lefts, sameDisk, begins; what is left of files: pure. The walk of FnActs. A slice of bytes that comes in, as the walks over drawn inputs want it. -/
import Derived.Test.YthffflpclmpamaaKSLose
import Derived.Test.YthffflpclmpamaaKKeptR
import Derived.Test.YthffflpclmpamaaKOrder
import Derived.Test.YthffflpclmpamaaKFigs
import Derived.Test.YthffflpclmpamaaKSFiles
import Derived.Test.YthffflpclmpamaaKINames
import Derived.WalkKit
import Derived.ProofKit
import Derived.OpenShut
import Derived.ChangeOld
import Derived.Below
namespace Go.Proofs.Ythffflpclmpamaa
open Go.RowKit

theorem cut_ok {f : FileV} (h : FileOk f) (l : Option Int) : 0 ≤ cutI f l ∧ f.kept ≤ cutI f l ∧ cutI f l ≤ f.text.size := by
  obtain ⟨_, _, h1, h2⟩ := h
  unfold cutI
  omega
theorem ext_size (t : ByteArray) (k : Nat) (h : k ≤ t.size) : (t.extract 0 k).size = k := by rw [ByteArray.size_extract]; omega
theorem cutF_ok {f : FileV} (h : FileOk f) (l : Option Int) : FileOk (cutF f l) ∧ ((cutF f l).text.size : Int) = (cutF f l).kept := by
  obtain ⟨h1, h2, h3⟩ := cut_ok h l
  have hs : (f.text.extract 0 (cutI f l).toNat).size = (cutI f l).toNat := ext_size _ _ (by omega)
  have ht := h.2.1
  refine ⟨⟨h.1, ?_, h1, ?_⟩, ?_⟩
  · show (f.text.extract 0 (cutI f l).toNat).size ≤ 20000
    omega
  · show cutI f l ≤ ((f.text.extract 0 (cutI f l).toNat).size : Int)
    omega
  · show ((f.text.extract 0 (cutI f l).toNat).size : Int) = cutI f l
    omega
theorem lose_at (fs : List FileV) (ls : List Int) (k : Nat) : (lose fs ls)[k]? = (fs[k]?).map fun f => cutF f ls[k]? := by
  unfold lose
  rw [List.getElem?_mapIdx]
theorem lose_names (fs : List FileV) (ls : List Int) : (lose fs ls).map nmOf = fs.map nmOf := by
  apply List.ext_getElem?
  intro k
  rw [List.getElem?_map, List.getElem?_map, lose_at]
  cases fs[k]? <;> rfl
theorem lose_disk {fs : List FileV} (h : DiskR fs) (ls : List Int) : DiskR (lose fs ls) := by
  rw [disk_iff] at h ⊢
  refine ⟨by rw [lose_len]; exact h.1, fun f hf => ?_, ?_⟩
  · obtain ⟨k, hk⟩ := List.getElem?_of_mem hf
    rw [lose_at] at hk
    cases hg : fs[k]? with
    | none => rw [hg] at hk; cases hk
    | some g =>
      rw [hg] at hk
      cases hk
      exact (cutF_ok (h.2.1 g (List.mem_of_getElem? hg)) _).1
  · have h3 : (fs.map nmOf).Pairwise (fun x y => x < y) := List.pairwise_map.2 h.2.2
    rw [← lose_names fs ls] at h3
    exact List.pairwise_map.1 h3
theorem lose_kept {fs : List FileV} (h : DiskR fs) (ls : List Int) : AllR (lose fs ls) := by
  refine ⟨lose_disk h ls, fun f hf => ?_⟩
  obtain ⟨k, hk⟩ := List.getElem?_of_mem hf
  rw [lose_at] at hk
  cases hg : fs[k]? with
  | none => rw [hg] at hk; cases hk
  | some g =>
    rw [hg] at hk
    cases hk
    have := (cutF_ok (disk_at h hg) ls[k]?).2
    show ¬ (cutF g ls[k]?).kept < ((cutF g ls[k]?).text.size : Int)
    omega
theorem lose_again {fs : List FileV} (h : AllR fs) : lose fs [] = fs := by
  apply List.ext_getElem?
  intro k
  rw [lose_at]
  cases hg : fs[k]? with
  | none => rfl
  | some g =>
    have hok := disk_at h.1 hg
    have h1 := h.2 g (List.mem_of_getElem? hg)
    obtain ⟨_, _, h2, h3⟩ := hok
    have e : cutI g none = g.kept := by unfold cutI; simp only [Option.getD]; omega
    show some (cutF g none) = some g
    unfold cutF
    rw [e]
    have : g.kept.toNat = g.text.size := by omega
    rw [this]
    simp
set_option maxRecDepth 100000 in
set_option maxHeartbeats 2000000 in
theorem sameDisk_same (fs : List FileV) (n : Nat) (a a' : Option Addr) (c c' : Nat) (hn : n ≤ 1048576) (w : World) (h : Fs w w.heap.size a n fs) (h' : Fs w w.heap.size a' n fs) :
    Calls Try.prog 8 #[.agg #[.slice a n c], .agg #[.slice a' n c']] w fun e w' => e = .returned (.bool true) ∧ Below w.heap.size w w' := by
  obtain ⟨hlen, hrow⟩ := h
  obtain ⟨_, hrow'⟩ := h'
  have HR := hideIt hrow
  have HR' := hideIt hrow'
  clear hrow hrow'
  have dn : ((n : Int) != (n : Int)) = false := by simp
  go_enter Try.func8, Try.ntmps8
  go_wp2
  go_loopw [5] (fun i wr => ∃ k : Nat, k ≤ n ∧ i = .int .i64 (k : Int) ∧ Below (w.heap.size + 2) ((w.alloc (.cells #[.slice a n c] 26)).alloc (.cells #[.slice a' n c'] 26)) wr) (fun i _ => n - (intOf i).toNat)
  case atStart => exact ⟨0, by omega, rfl, Below.refl _ _⟩
  case round =>
    obtain ⟨k, hk, rfl, hb⟩ := hrel
    have q0 : wr.cell? ⟨w.heap.size, 0, none⟩ = some (.slice a n c) := by rw [hb.cell (by show w.heap.size < _; omega)]; simp
    have q1 : wr.cell? ⟨w.heap.size + 1, 0, none⟩ = some (.slice a' n c') := by rw [hb.cell (by show w.heap.size + 1 < _; omega)]; simp
    have KB : Below w.heap.size w wr := (((Below.refl w.heap.size w).alloc (Nat.le_refl _) _).alloc (by simp) _).trans (hb.mono (by omega))
    by_cases hlt : k < n
    · rcases HR.out with hz | ⟨b, off, rfl, hbl, hc⟩
      · omega
      · rcases HR'.out with hz | ⟨b', off', rfl, hbl', hc'⟩
        · omega
        · obtain ⟨f, hf⟩ : ∃ f, fs[k]? = some f := ⟨fs[k]'(by omega), List.getElem?_eq_getElem (by omega)⟩
          obtain ⟨c0, c1, c2⟩ := hc k f hf
          obtain ⟨d0, d1, d2⟩ := hc' k f hf
          have e0 : wr.cell? ⟨b, off + k * 3, none⟩ = some (.string f.name) := by rw [KB.cell hbl]; exact c0
          have e1 : wr.cell? ⟨b, off + k * 3 + 1, none⟩ = some (.string f.text) := by rw [KB.cell hbl]; exact c1
          have e2 : wr.cell? ⟨b, off + k * 3 + 2, none⟩ = some (.int .i64 f.kept) := by rw [KB.cell hbl]; exact c2
          have e3 : wr.cell? ⟨b', off' + k * 3, none⟩ = some (.string f.name) := by rw [KB.cell hbl']; exact d0
          have e4 : wr.cell? ⟨b', off' + k * 3 + 1, none⟩ = some (.string f.text) := by rw [KB.cell hbl']; exact d1
          have e5 : wr.cell? ⟨b', off' + k * 3 + 2, none⟩ = some (.int .i64 f.kept) := by rw [KB.cell hbl']; exact d2
          have b1 : (0 : Int) ≤ (k : Int) := by omega
          have b2 : (k : Int) < (n : Int) := by omega
          clear c0 c1 c2 d0 d1 d2 hc hc' hf
          go_wp2
          go_quiet (fail)
          go_wp2
          exact ⟨⟨k + 1, by omega, by go_num, below_drewN hb _⟩, by simp [intOf]; omega⟩
    · go_wp2
      go_ret
      exact ⟨rfl, KB⟩

end Go.Proofs.Ythffflpclmpamaa
namespace Go.Proofs.Ythffflpclmpamaa
open Go.RowKit

set_option maxRecDepth 100000 in
set_option maxHeartbeats 16000000 in
theorem fnActs.walk (a : Option Addr) (len cap : Nat) (w : World) (hcode : Code w w.heap.size a len) :
    Calls Try.prog 3 #[.slice a len cap] w fun e w' => e = .returned (.bool true) ∧ Below w.heap.size w w' := by
  by_cases hbig : 1048576 < len
  · have H := hideIt (big_any w a len cap)
    have d0 : decide ((1048576 : Int) < (len : Int)) = true := by simp; omega
    rw [d0] at H
    go_enter Try.func3, Try.ntmps3
    go_wp2_with (go_at_call 4; refine H.out.mono ?_; rintro e w1 ⟨rfl, rfl⟩)
    go_ret
    exact ⟨rfl, Below.refl _ _⟩
  have hl : len ≤ 1048576 := by omega
  have H := hideIt (big_any w a len cap)
  have d0 : decide ((1048576 : Int) < (len : Int)) = false := by simp; omega
  rw [d0] at H
  have HD := hideIt (drawCutActs_any w a len cap hl hcode)
  clear hcode
  go_enter Try.func3, Try.ntmps3
  go_wp2_with (first
    | (go_at_call 4; refine H.out.mono ?_; rintro e w1 ⟨rfl, e1⟩; have e2 := e1.symm; subst e2)
    | (go_at_call 5; refine HD.out.mono ?_; rintro e w2 ⟨fs, ad, n, cd, xs, ga, na, ca, z, ls, gl, nl, cl, ⟨⟨hn32, hsm⟩, ⟨hna9, hfb⟩, hnl6⟩, rfl, hD⟩; refine Hid.out ?_))
  refine (show ∀ {p : Prop}, p → Hid p from fun h => h) ?_
  -- what was drawn
  have hfslen : fs.length = n := by have := hD.f.1; rw [fcells_length] at this; omega
  have hlet : fs.length + letters fs ≤ 1048576 := sm_fits hsm (by omega)
  have hxfit : FitsA xs := fun x hx => (hfb x hx).fit
  have hnil := fs_nil_of hD.f
  have hca : na ≤ ca := own_cap hD.x
  have hadb := own_at hD.f
  have HB := hideIt hadb
  have HL := hideIt hlet
  have HX := hideIt hxfit
  have HN := hideIt hnil
  have z2 := hD.b.size
  have F3 : FAc w w2.heap.size fs ad n cd xs ga na ls gl nl (w2.alloc (.cells #[.slice ad n cd] 26)) := by
    have K := (Below.refl w2.heap.size w2).alloc (Nat.le_refl _) (.cells #[.slice ad n cd] 26)
    exact ⟨Box.new _ _ _ _ rfl, (Fs_of_ownv hD.f).up K, (As_of_own hD.x).up K, (Is_of_own hD.l).up K, hD.b.alloc hD.b.size _⟩
  clear H HD hD hsm hfb hlet hxfit hnil hadb
  obtain ⟨u3, X, eu3, eX⟩ : ∃ u3 X, u3 = w2.alloc (.cells #[.slice ad n cd] 26) ∧ X = w2.heap.size := ⟨_, _, rfl, rfl⟩
  go_upto_region 4 with fail
  rw [← eu3, ← eX] at F3
  rw [← eu3, ← eX]
  have zX : w2.heap.size ≤ X := by omega
  clear eu3 eX
  have q0 := F3.box.cell
  have HA := hideIt (iDoActs_any fs HL.out n ad cd xs HX.out na (some ⟨ga, 0, none⟩) ca (by omega) u3 F3.f F3.x)
  have HrunL := runs_len (fs := fs) (by omega) xs
  have HrunN := run_le xs fs
  have hxl : xs.length = na := F3.x.1
  unfold ActsAns at HA
  generalize hP : runActs fs xs = P at *
  have HP := hideIt hP
  clear hP
  go_wp2_with (go_at_call 6; refine HA.out.mono ?_; rintro e w4 ⟨a7, m7, c7, rfl, ho7, hb4⟩; refine Hid.out ?_)
  refine (show ∀ {p : Prop}, p → Hid p from fun h => h) ?_
  have N5 := DkA.laid ho7
  have F5 := (F3.up hb4).alloc (.cells #[.slice a7 m7 c7] 26)
  obtain ⟨u5, b7, eu5, eb7⟩ : ∃ u5 b7, u5 = w4.alloc (.cells #[.slice a7 m7 c7] 26) ∧ b7 = w4.heap.size := ⟨_, _, rfl, rfl⟩
  go_upto_region 5 with fail
  rw [← eu5, ← eb7] at N5
  rw [← eu5] at F5
  rw [← eu5, ← eb7]
  clear eu5 eb7 HA ho7 hb4 F3 q0
  have q0 := F5.box.cell
  have HA := hideIt (sDoActs_opt fs HL.out n ad cd HN.out xs HX.out na (some ⟨ga, 0, none⟩) ca (by omega) u5 F5.f F5.x)
  unfold ActsAnsS at HA
  rw [HP.out] at HA
  go_wp2_with (go_at_call 7; refine HA.out.mono ?_; rintro e w6 ⟨a9, m9, c9, rfl, ho9, hb6⟩; refine Hid.out ?_)
  refine (show ∀ {p : Prop}, p → Hid p from fun h => h) ?_
  have V7 := DkA.laid ho9
  have F7 := (F5.up hb6).alloc (.cells #[.slice a9 m9 c9] 26)
  have N7 := (N5.up hb6).up ((Below.refl _ _).alloc (Nat.le_refl _) (.cells #[.slice a9 m9 c9] 26))
  obtain ⟨u7, b9, eu7, eb9⟩ : ∃ u7 b9, u7 = w6.alloc (.cells #[.slice a9 m9 c9] 26) ∧ b9 = w6.heap.size := ⟨_, _, rfl, rfl⟩
  go_upto_region 6 with fail
  rw [← eu7, ← eb9] at V7
  rw [← eu7] at F7 N7
  rw [← eu7, ← eb9]
  clear eu7 eb9 HA ho9 hb6 F5 N5 q0
  obtain rfl : m9 = m7 := by have := N7.len; have := V7.len; omega
  have hm32 : m9 ≤ 1048576 := by have := N7.len; omega
  have dn : ((P.2 : Int) != (P.2 : Int)) = false := by simp
  have q1 := N7.box.cell
  have q2 := V7.box.cell
  have HS := hideIt (sameDisk_same P.1 m9 a7 a9 c7 c9 hm32 u7 N7.fs V7.fs)
  go_wp2_with (go_at_call 8; refine HS.out.mono ?_; rintro e w8 ⟨rfl, hb8⟩; refine Hid.out ?_)
  refine (show ∀ {p : Prop}, p → Hid p from fun h => h) ?_
  have F8 := F7.up hb8
  have N8 := N7.up hb8
  clear HS hb8 V7 F7 N7 q1 q2
  -- one goes on
  have q0 := F8.box.cell
  have zb : w2.heap.size ≤ w8.heap.size := by have := F8.box.lt; omega
  have O9 : OnA (w8.alloc (.cells #[.slice ad n cd] 26)) w8.heap.size ad n cd fs :=
    ⟨Box.new _ _ _ _ rfl, F8.f.up ((Below.refl _ _).alloc (Nat.le_refl _) _), fun p hp => by have := HB.out p hp; omega⟩
  have K9 : Below w8.heap.size w8 (w8.alloc (.cells #[.slice ad n cd] 26)) := (Below.refl _ _).alloc (Nat.le_refl _) _
  obtain ⟨u9, B, eu9, eB⟩ : ∃ u9 B, u9 = w8.alloc (.cells #[.slice ad n cd] 26) ∧ B = w8.heap.size := ⟨_, _, rfl, rfl⟩
  go_upto_region 9 with fail
  rw [← eu9, ← eB] at O9
  rw [← eu9] at K9
  rw [← eu9, ← eB]
  have HeB := hideIt eB
  clear eu9 eB q0 zb
  go_wp2
  go_loopw [12] (fun i wr => ∃ (k : Nat) (gs : List FileV) (a' : Option Addr) (m c' : Nat), k ≤ P.2 ∧ i = .int .i64 (k : Int) ∧ Hid (Ran fs xs k gs ∧ gs.length + letters gs ≤ 1048576) ∧ Hid (OnA wr B a' m c' gs) ∧ Hid (Below w8.heap.size w8 wr)) (fun i _ => P.2 - (intOf i).toNat)
  case atStart => exact ⟨0, fs, ad, n, cd, by omega, rfl, ⟨Ran.start _ _, HL.out⟩, O9, K9⟩
  case round =>
    obtain ⟨k, gs, a', m, c', hk, rfl, hI, hO, hb⟩ := hrel
    have F := F8.up hb.out
    by_cases hlt : k < P.2
    · have b1 : (0 : Int) ≤ (k : Int) := by omega
      have b2 : (k : Int) < (na : Int) := by omega
      have d1 : decide ((k : Int) < (P.2 : Int)) = true := by simp; omega
      obtain ⟨x, hf⟩ : ∃ f, xs[k]? = some f := ⟨xs[k]'(by omega), List.getElem?_eq_getElem (by omega)⟩
      obtain ⟨hs, hdo⟩ := ran_at hI.out.1 (by rw [HP.out]; exact hlt) hf
      have O := hO.out
      have lB := O.box.lt
      have hlg := hI.out.2
      have hlh : hs.length + letters hs ≤ 1048576 := disk_lettersX (doAct_disk hdo)
      have HI : Hid (Ran fs xs (k + 1) hs ∧ hs.length + letters hs ≤ 1048576) := ⟨hI.out.1.step hf hdo, hlh⟩
      have HC : Hid (∀ u, Good wr u → (u.cell? ⟨B, 0, none⟩ = some (.slice a' m c') ∧ u.cell? ⟨ga, k * 4, none⟩ = some (.int .i64 x.kind) ∧ u.cell? ⟨ga, k * 4 + 1, none⟩ = some (.string x.name) ∧ u.cell? ⟨ga, k * 4 + 2, none⟩ = some (.string x.text) ∧ u.cell? ⟨ga, k * 4 + 3, none⟩ = some (.string x.to)) ∧ Good wr u) := fun u hu =>
        ⟨⟨(O.up hu).box.cell, (F.up hu).act hf⟩, hu⟩
      have hS0 := HC.out _ (Good.refl wr).drew
      have HDo : Hid (∀ u, Good wr u → Calls Try.prog 9 #[.agg #[.slice a' m c'], .agg #[.int .i64 x.kind, .string x.name, .string x.text, .string x.to]] u fun e v => ∃ a2 m2 c2, e = .returned (.tuple #[.agg #[.slice a2 m2 c2], .bool true]) ∧ v.ownsRow wr.heap.size 49 3 (.slice a2 m2 c2) m2 (fcells hs) ∧ Good wr v ∧ Keep u v) := fun u hu =>
        (iDoAct_any gs hlg m a' c' x (HX.out x (List.mem_of_getElem? hf)) u ((O.up hu).fs)).mono fun e v hA => by
          rw [hdo] at hA
          obtain ⟨a2, m2, c2, he, hw, hbb⟩ := act_ans hA
          exact ⟨a2, m2, c2, he, own_mono hw hu.size, hu.up hbb, Keep.of hbb⟩
      have HA1 : Hid (x.kind = 1 → (fileOf hs x.name).isSome = true ∧ txO (fileOf hs x.name) = txO (fileOf gs x.name) ++ x.text) := fun h => by
        obtain ⟨f, h1, h2⟩ := act_addQ hdo h
        rw [h1]
        exact ⟨rfl, h2⟩
      have HA4 : Hid (x.kind = 4 → (fileOf hs x.name).isSome = false) := fun h => by rw [act_dropQ hdo h]; rfl
      have HF := hideIt F
      have HHf := hideIt hf
      clear hI hO hlh F hf hdo
      have HO := hideIt O
      clear O
      go_upto_region 12 with fail
      go_cut [13, 14] (fun p ok wx => ∃ bN a2 m2 c2, p = .pointer (some ⟨bN, 0, none⟩) ∧ ok = .bool true ∧ Good wr wx ∧ DBox wx wr.heap.size wx.heap.size bN a2 m2 c2 hs)
      case first =>
        go_region_held3 (fun u => (u.cell? ⟨B, 0, none⟩ = some (.slice a' m c') ∧ u.cell? ⟨ga, k * 4, none⟩ = some (.int .i64 x.kind) ∧ u.cell? ⟨ga, k * 4 + 1, none⟩ = some (.string x.name) ∧ u.cell? ⟨ga, k * 4 + 2, none⟩ = some (.string x.text) ∧ u.cell? ⟨ga, k * 4 + 3, none⟩ = some (.string x.to)) ∧ Good wr u)
          (first | assumption | exact HC.out _ (Good.alloc (And.right (by assumption)) _) | exact HC.out _ (Good.set (And.right (by assumption)) _ _ _ (by omega)))
          ((go_at_call 9; refine (HDo.out _ (And.right (by assumption))).mono ?_; rintro e w5 ⟨a2, m2, c2, rfl, ho5, hg5, hk5⟩; have hS5 := HC.out _ hg5; have z5 := hg5.size; (first | have bx := hk5.nil (Box.new wr _ _ _ rfl) | skip); try (have bc := bx.cell; have bz := bx.frozen)))
        all_goals
          go_wp2_with fail
          go_meet
          first
            | exact ⟨_, a2, m2, c2, rfl, rfl, Good.set hg5 _ _ _ (by omega), DBox.stored bx (by omega) ho5⟩
            | exact ⟨_, a2, m2, c2, rfl, rfl, Good.alloc hg5 _, DBox.laid (by omega) ho5⟩
      case rest =>
        obtain ⟨bN, a2, m2, c2, rfl, rfl, G, DN⟩ := hcut
        have F2 := HF.out.up G
        have O2 := HO.out.up G
        have hne2 := hideIt (own_ne DN.own lB)
        have hlh := HI.out.2
        have hbc := hideIt (hb.out.trans (G.mono hb.out.size))
        clear HC hS0 HDo HF HO
        obtain ⟨tx, etx⟩ : ∃ t, t = txO (fileOf gs x.name) := ⟨_, rfl⟩
        obtain ⟨fx, efx⟩ : ∃ t, t = (fileOf gs x.name).isSome := ⟨_, rfl⟩
        obtain ⟨ty, ety⟩ : ∃ t, t = txO (fileOf hs x.name) := ⟨_, rfl⟩
        obtain ⟨fy, efy⟩ : ∃ t, t = (fileOf hs x.name).isSome := ⟨_, rfl⟩
        rw [← efy, ← ety, ← etx] at HA1
        rw [← efy] at HA4
        have HF1 : Hid (∀ u, Good wc u → Calls Try.prog 10 #[.agg #[.slice a' m c'], .string x.name] u fun e v => e = .returned (.tuple #[.string tx, .bool fx]) ∧ Good wc v) := fun u hu =>
          (iFileAt_any gs x.name m a' c' u hlg ((O2.up hu).fs)).mono fun e v hA => ⟨by rw [hA.1, faV_eq, ← etx, ← efx], hu.up hA.2⟩
        have HF2 : Hid (∀ u, Good wc u → Calls Try.prog 10 #[.agg #[.slice a2 m2 c2], .string x.name] u fun e v => e = .returned (.tuple #[.string ty, .bool fy]) ∧ Good wc v) := fun u hu =>
          (iFileAt_any hs x.name m2 a2 c2 u hlh ((DN.up hu).fs)).mono fun e v hA => ⟨by rw [hA.1, faV_eq, ← ety, ← efy], hu.up hA.2⟩
        have htx : tx.size ≤ 1048576 := by
          rw [etx]
          cases ho : fileOf gs x.name with
          | none => exact Nat.zero_le _
          | some f =>
            have := letters_mem (fileOf_is ho).1
            show f.text.size ≤ _
            omega
        have hxt : x.text.size ≤ 1048576 := (HX.out x (List.mem_of_getElem? HHf.out)).2.1
        clear etx efx ety efy
        have HC2 : Hid (∀ u, Good wc u → (u.cell? ⟨B, 0, none⟩ = some (.slice a' m c') ∧ u.cell? ⟨bN, 0, none⟩ = some (.slice a2 m2 c2) ∧ u.cell? ⟨ga, k * 4, none⟩ = some (.int .i64 x.kind) ∧ u.cell? ⟨ga, k * 4 + 1, none⟩ = some (.string x.name) ∧ u.cell? ⟨ga, k * 4 + 2, none⟩ = some (.string x.text) ∧ u.cell? ⟨ga, k * 4 + 3, none⟩ = some (.string x.to)) ∧ Good wc u) := fun u hu =>
          ⟨⟨(O2.up hu).box.cell, (DN.up hu).cell, (F2.up hu).act HHf.out⟩, hu⟩
        have hS1 := HC2.out _ (Good.refl wc).drew
        have HO2 := hideIt O2
        have HDN := hideIt DN
        clear F2 O2 DN hlh hlg
        go_upto_region 15 with fail
        go_region_held3 (fun u => (u.cell? ⟨B, 0, none⟩ = some (.slice a' m c') ∧ u.cell? ⟨bN, 0, none⟩ = some (.slice a2 m2 c2) ∧ u.cell? ⟨ga, k * 4, none⟩ = some (.int .i64 x.kind) ∧ u.cell? ⟨ga, k * 4 + 1, none⟩ = some (.string x.name) ∧ u.cell? ⟨ga, k * 4 + 2, none⟩ = some (.string x.text) ∧ u.cell? ⟨ga, k * 4 + 3, none⟩ = some (.string x.to)) ∧ Good wc u)
          (first | assumption)
          ((go_at_call 10; refine (HF1.out _ (And.right (by assumption))).mono ?_; rintro e w5 ⟨rfl, hg5⟩; have hS5 := HC2.out _ hg5))
        have hS6 := HC2.out _ hg5.drew
        go_upto_region 16 with fail
        go_region_held3 (fun u => (u.cell? ⟨B, 0, none⟩ = some (.slice a' m c') ∧ u.cell? ⟨bN, 0, none⟩ = some (.slice a2 m2 c2) ∧ u.cell? ⟨ga, k * 4, none⟩ = some (.int .i64 x.kind) ∧ u.cell? ⟨ga, k * 4 + 1, none⟩ = some (.string x.name) ∧ u.cell? ⟨ga, k * 4 + 2, none⟩ = some (.string x.text) ∧ u.cell? ⟨ga, k * 4 + 3, none⟩ = some (.string x.to)) ∧ Good wc u)
          (first | assumption)
          ((go_at_call 10; refine (HF2.out _ (And.right (by assumption))).mono ?_; rintro e w6 ⟨rfl, hg6⟩; have hS7 := HC2.out _ hg6))
        obtain ⟨⟨y0, y1, y2, y3, y4, y5⟩, _⟩ := HC2.out _ hg6
        have O6 := HO2.out.up hg6
        have y6 := O6.box.frozen
        have st := hideIt (OnA.store (c := c2) O6.box (HDN.out.up hg6).fs hne2.out)
        have HB9 := hideIt ((hbc.out.trans (hg6.mono hbc.out.size)).setCell (p := ⟨B, 0, none⟩) (by rw [HeB.out]; exact Nat.le_refl _) (.slice a2 m2 c2))
        clear HC2 hS1 hS5 hS6 hS7 HF1 HF2 HO2 HDN O6 hg5 hg6 hbc hb F8 N8
        by_cases k1 : x.kind = 1
        · have e1 : (x.kind == 1) = true := by simpa using k1
          have e4 : (x.kind == 4) = false := by rw [k1]; rfl
          obtain ⟨rfl, rfl⟩ := HA1.out k1
          clear HA1 HA4 k1
          go_wp2
          go_roundw
          case rel => exact ⟨k + 1, hs, a2, m2, c2, by omega, by go_num, HI, st, HB9⟩
          case measure => simp [intOf]; omega
        · have e1 : (x.kind == 1) = false := by simpa using k1
          by_cases k4 : x.kind = 4
          · have e4 : (x.kind == 4) = true := by simpa using k4
            obtain rfl := HA4.out k4
            clear HA1 HA4 k1 k4
            go_wp2
            go_roundw
            case rel => exact ⟨k + 1, hs, a2, m2, c2, by omega, by go_num, HI, st, HB9⟩
            case measure => simp [intOf]; omega
          · have e4 : (x.kind == 4) = false := by simpa using k4
            clear HA1 HA4 k1 k4
            go_wp2
            go_roundw
            case rel => exact ⟨k + 1, hs, a2, m2, c2, by omega, by go_num, HI, st, HB9⟩
            case measure => simp [intOf]; omega
    · obtain rfl : k = P.2 := by omega
      have hgs : P.1 = gs := by
        have h1 := hI.out.1
        have h2 : (runActs fs xs).2 = P.2 := by rw [HP.out]
        rw [← h2] at h1
        have := ran_end h1
        rw [HP.out] at this
        exact this
      have d1 : decide ((P.2 : Int) < (P.2 : Int)) = false := by simp
      have N := N8.up hb.out
      have O := hO.out
      obtain ⟨oc, eoc⟩ : ∃ o, o = cutO fs xs z ls := ⟨_, rfl⟩
      have HA : Hid (∀ u, FAc w X fs ad n cd xs ga na ls gl nl u → Calls Try.prog 11 #[.agg #[.slice ad n cd], .slice (some ⟨ga, 0, none⟩) na ca, .int .i64 z, .slice (some ⟨gl, 0, none⟩) nl cl] u fun e v => ∃ a m c, e = .returned (.tuple #[.agg #[.slice a m c], .bool oc.isSome]) ∧ v.ownsRow u.heap.size 49 3 (.slice a m c) m (fcells (oc.getD [])) ∧ Below u.heap.size u v) := fun u hu => by
        rw [eoc]
        exact (iCutActs_any fs HL.out n ad cd xs HX.out na ga 0 ca (by omega) hca z ls nl (some ⟨gl, 0, none⟩) cl (by omega) u hu.f hu.x hu.l).mono fun _ _ h => act_ans h
      have HS : Hid (∀ u, FAc w X fs ad n cd xs ga na ls gl nl u → Calls Try.prog 12 #[.agg #[.slice ad n cd], .slice (some ⟨ga, 0, none⟩) na ca, .int .i64 z, .slice (some ⟨gl, 0, none⟩) nl cl] u fun e v => ∃ a m c, e = .returned (.tuple #[.agg #[.slice a m c], .bool oc.isSome]) ∧ v.ownsRow u.heap.size 49 3 (.slice a m c) m (fcells (oc.getD [])) ∧ Below u.heap.size u v) := fun u hu => by
        rw [eoc]
        exact (sCutActs_opt fs HL.out n ad cd HN.out xs HX.out na ga 0 ca (by omega) hca z ls nl (some ⟨gl, 0, none⟩) cl (by omega) u hu.f hu.x hu.l).mono fun _ _ h => act_ans h
      have hol : (oc.getD []).length ≤ 30 := by rw [eoc]; exact cutO_len
      clear eoc
      generalize oc.isSome = fo at *
      generalize oc.getD [] = os at *
      have HKw := hideIt F.b
      have q0 := F.box.cell
      have HA1 := hideIt (HA.out wr F)
      clear hI hO
      obtain rfl := hgs
      have hgm : m = m9 := by have := O.fs.1; have := N.len; omega
      subst hgm
      clear hb N8 F8
      go_wp2_with (go_at_call 11; refine HA1.out.mono ?_; rintro e w10 ⟨a19, m19, c19, rfl, ho10, hb10⟩; refine Hid.out ?_)
      refine (show ∀ {p : Prop}, p → Hid p from fun h => h) ?_
      have K11 : Below w10.heap.size w10 (w10.alloc (.cells #[.slice a19 m19 c19] 26)) := (Below.refl _ _).alloc (Nat.le_refl _) _
      have C11 := DkA.laid ho10
      have F11 := (F.up hb10).up K11
      have N11 := (N.up hb10).up K11
      have O11 := (O.up hb10).up K11
      obtain ⟨u11, b19, eu11, eb19⟩ : ∃ u11 b19, u11 = w10.alloc (.cells #[.slice a19 m19 c19] 26) ∧ b19 = w10.heap.size := ⟨_, _, rfl, rfl⟩
      go_upto_region 21 with fail
      rw [← eu11, ← eb19] at C11
      rw [← eu11] at F11 N11 O11
      rw [← eu11, ← eb19]
      clear eu11 eb19 HA HA1 ho10 hb10 K11 F N O q0
      have q0 := F11.box.cell
      have HS1 := hideIt (HS.out u11 F11)
      go_wp2_with (go_at_call 12; refine HS1.out.mono ?_; rintro e w12 ⟨a21, m21, c21, rfl, ho12, hb12⟩; refine Hid.out ?_)
      refine (show ∀ {p : Prop}, p → Hid p from fun h => h) ?_
      have K13 : Below w12.heap.size w12 (w12.alloc (.cells #[.slice a21 m21 c21] 26)) := (Below.refl _ _).alloc (Nat.le_refl _) _
      have D13 := DkA.laid ho12
      have C13 := (C11.up hb12).up K13
      have F13 := (F11.up hb12).up K13
      have N13 := (N11.up hb12).up K13
      have O13 := (O11.up hb12).up K13
      obtain ⟨u13, b21, eu13, eb21⟩ : ∃ u13 b21, u13 = w12.alloc (.cells #[.slice a21 m21 c21] 26) ∧ b21 = w12.heap.size := ⟨_, _, rfl, rfl⟩
      go_upto_region 22 with fail
      rw [← eu13, ← eb21] at D13
      rw [← eu13] at C13 F13 N13 O13
      rw [← eu13, ← eb21]
      clear eu13 eb21 HS HS1 ho12 hb12 K13 C11 F11 N11 O11 q0
      have hmc : m21 = m19 := by have := C13.len; have := D13.len; omega
      subst hmc
      have hmc2 : m21 ≤ 1048576 := by have := C13.len; omega
      have q1 := C13.box.cell
      have q2 := D13.box.cell
      have HSa := hideIt (sameDisk_same os m21 a19 a21 c19 c21 hmc2 u13 C13.fs D13.fs)
      by_cases hz0 : P.2 = 0
      · have e0 : ((P.2 : Int) == 0) = true := by rw [hz0]; rfl
        go_wp2_with (go_at_call 8; refine HSa.out.mono ?_; rintro e w14 ⟨rfl, hb14⟩; refine Hid.out ?_)
        refine (show ∀ {p : Prop}, p → Hid p from fun h => h) ?_
        have F14 := F13.up hb14
        go_wp2
        go_ret
        exact ⟨rfl, F14.b⟩
      · have e0 : ((P.2 : Int) == 0) = false := by simp; omega
        go_wp2_with (go_at_call 8; refine HSa.out.mono ?_; rintro e w14 ⟨rfl, hb14⟩; refine Hid.out ?_)
        refine (show ∀ {p : Prop}, p → Hid p from fun h => h) ?_
        have F14 := F13.up hb14
        have N14 := N13.up hb14
        have O14 := O13.up hb14
        have q3 := N14.box.cell
        have q4 := O14.box.cell
        have HSb := hideIt (sameDisk_same P.1 m a' a7 c' c7 hm32 w14 O14.fs N14.fs)
        clear HSa hb14 C13 D13 F13 N13 O13 q1 q2
        go_wp2_with (go_at_call 8; refine HSb.out.mono ?_; rintro e w15 ⟨rfl, hb15⟩; refine Hid.out ?_)
        refine (show ∀ {p : Prop}, p → Hid p from fun h => h) ?_
        have F15 := F14.up hb15
        go_wp2
        go_ret
        exact ⟨rfl, F15.b⟩
end Go.Proofs.Ythffflpclmpamaa
namespace Go.Proofs.Ythffflpclmpamaa
open Go.ChangeShapes Go.WideShapes Go.ChangeAt Go.RowKit

/-- a slice of bytes that came in, as the walk wants it -/
theorem code_of {H : Type} {enc : TypeId × Value → H} {W : World} {a : Option Addr} {len cap fuel : Nat} {x : DataW H × List MemPlace}
    (hf : DataW.trod enc Try.prog W 0 (fun _ => true) true fuel 22 [.slice a len cap] = some x) : Code W W.heap.size a len := by
  rcases open_ints Try.underlying22 Try.underlying5 (by kernel_rfl) hf with ⟨hcs, _⟩ | ⟨x, l, c, zs, hcs, _, hl, hm, hz, _, hcell, hwz⟩
  · simp at hcs
    obtain ⟨rfl, rfl, rfl⟩ := hcs
    exact .inl rfl
  · simp at hcs
    obtain ⟨rfl, rfl, rfl⟩ := hcs
    by_cases h0 : len = 0
    · exact .inl h0
    · have hzl : zs.length = cap := by simpa using hz
      obtain ⟨b, off, rfl, hc⟩ := ints_at hcell (by omega)
      have hb : b < W.heap.size := World.block_lt_of_cell? W _ (hc 0 (by omega))
      refine .inr ⟨b, off, rfl, hb, by omega, fun j hj => ?_⟩
      have hw := hwz (zs.getD j 0) (by
        rw [List.getD_eq_getElem?_getD, List.getElem?_eq_getElem (by omega)]
        exact List.getElem_mem _)
      have hr : 0 ≤ zs.getD j 0 ∧ zs.getD j 0 ≤ 255 := by simpa [Lit.wf, IntKind.min, IntKind.max, IntKind.signed, IntKind.bits] using hw
      refine ⟨(zs.getD j 0).toNat, by omega, ?_⟩
      rw [hc j (by omega), Int.toNat_of_nonneg hr.1]

end Go.Proofs.Ythffflpclmpamaa
