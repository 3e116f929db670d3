/- A right web stays right: one Level of WebTake; the whole of it; WebAdd. Pure. A right web stays right: what takes the place; WebTake; WebAdd. Pure. New webs, both sides; an empty web is right. Draws of right webs. Draws of right webs with an edge. Draws of right webs with an edge. -/
import Derived.Test.YtkkplppcgnikoaaGreatKRw12
import Derived.Test.YtkkplppcgnikoaaGreatKSWa9
import Derived.Test.YtkkplppcgnikoaaGreatKTourP
import Derived.Deep.DeepCutAuto
import Derived.Test.YtkkplppcgnikoaaGreatKSPl9
namespace Go.Proofs.YtkkplppcgnikoaaGreat

/-- the edges beside the forest stay what they are, but for their Levels: the forest's edges are the same -/
theorem fE_sr {i : Int} {t : List Int} {L : List Ld} {j : Int} {d : EdgeV} : d ∈ fE (L.map (srL i t)) j ↔ d ∈ fE L j := by
  rw [fE_mem, fE_mem]
  constructor
  · rintro ⟨x, hx, h1, h2, h3⟩
    obtain ⟨y, hy, rfl⟩ := List.mem_map.1 hx
    unfold srL at h1 h2 h3
    split at h1
    · rename_i hc
      rw [hc.1] at h1
      cases h1
    · rename_i hc
      rw [if_neg hc] at h2 h3
      exact ⟨y, hy, h1, h2, h3⟩
  · rintro ⟨x, hx, h1, h2, h3⟩
    have e : srL i t x = x := by unfold srL; rw [if_neg (fun hc => by rw [hc.1] at h1; cases h1)]
    exact ⟨x, List.mem_map.2 ⟨x, hx, e⟩, h1, h2, h3⟩
/-- a tree is raised -/
theorem fE_rs {i : Nat} (hi : i < 5) {t : List Int} {ls : List Ld} {j : Nat} {d : EdgeV} : d ∈ fE (ls.map (rsL (i : Int) t)) (j : Int) ↔ d ∈ fE ls (j : Int) ∨ (j = i + 1 ∧ i < 4 ∧ d ∈ fE ls (i : Int) ∧ d.1 ∈ t) := by
  rw [fE_mem]
  constructor
  · rintro ⟨x, hx, h1, h2, h3⟩
    obtain ⟨y, hy, rfl⟩ := List.mem_map.1 hx
    unfold rsL at h1 h2 h3
    split at h1
    · rename_i hc
      rw [if_pos hc] at h2 h3
      by_cases hj : (j : Int) ≤ y.l
      · exact .inl (fE_mem.2 ⟨y, hy, hc.1, hj, h3⟩)
      · have h2' : (j : Int) ≤ upL (i : Int) := h2
        unfold upL at h2'
        have hyl := hc.2.1
        split at h2'
        · exact absurd (show (j : Int) ≤ y.l by omega) hj
        · refine .inr ⟨by omega, by omega, fE_mem.2 ⟨y, hy, hc.1, by omega, h3⟩, ?_⟩
          rw [← h3]
          exact hc.2.2
    · rename_i hc
      rw [if_neg hc] at h2 h3
      exact .inl (fE_mem.2 ⟨y, hy, h1, h2, h3⟩)
  · rintro (h | ⟨rfl, hi4, h, hdt⟩)
    · obtain ⟨y, hy, h1, h2, h3⟩ := fE_mem.1 h
      by_cases hc : y.t = true ∧ y.l = (i : Int) ∧ y.a ∈ t
      · refine ⟨_, List.mem_map.2 ⟨y, hy, rfl⟩, ?_, ?_, ?_⟩
        · unfold rsL; rw [if_pos hc]; exact h1
        · unfold rsL
          rw [if_pos hc]
          show (j : Int) ≤ upL (i : Int)
          unfold upL
          have := hc.2.1
          split <;> omega
        · unfold rsL; rw [if_pos hc]; exact h3
      · refine ⟨_, List.mem_map.2 ⟨y, hy, rfl⟩, ?_, ?_, ?_⟩
        · unfold rsL; rw [if_neg hc]; exact h1
        · unfold rsL; rw [if_neg hc]; exact h2
        · unfold rsL; rw [if_neg hc]; exact h3
    · obtain ⟨y, hy, h1, h2, h3⟩ := fE_mem.1 h
      by_cases hl : y.l = (i : Int)
      · have hc : y.t = true ∧ y.l = (i : Int) ∧ y.a ∈ t := ⟨h1, hl, by rw [← h3] at hdt; exact hdt⟩
        refine ⟨_, List.mem_map.2 ⟨y, hy, rfl⟩, ?_, ?_, ?_⟩
        · unfold rsL; rw [if_pos hc]; exact h1
        · unfold rsL
          rw [if_pos hc]
          show ((i + 1 : Nat) : Int) ≤ upL (i : Int)
          unfold upL
          split <;> omega
        · unfold rsL; rw [if_pos hc]; exact h3
      · have hc : ¬ (y.t = true ∧ y.l = (i : Int) ∧ y.a ∈ t) := fun hc => hl hc.2.1
        refine ⟨_, List.mem_map.2 ⟨y, hy, rfl⟩, ?_, ?_, ?_⟩
        · unfold rsL; rw [if_neg hc]; exact h1
        · unfold rsL; rw [if_neg hc]; omega
        · unfold rsL; rw [if_neg hc]; exact h3
theorem rsT_non {i : Int} {t : List Int} {x : Ld} (h : x.t = false) : rsL i t x = x := by unfold rsL; rw [if_neg (fun hc => by rw [h] at hc; cases hc.1)]
theorem rsT_t {i : Int} {t : List Int} {x : Ld} : (rsL i t x).t = x.t := by unfold rsL; split <;> rfl
theorem sr_t {i : Int} {t : List Int} {x : Ld} : (srL i t x).t = x.t := by unfold srL; split <;> rfl

section
variable {n i : Nat} {e : EdgeV} {ls : List Ld} {t : List Int}
/-- what a raised tree does to what hangs together -/
structure Rs (n i : Nat) (e : EdgeV) (ls : List Ld) (t : List Int) : Prop where
  ts : TS n e (i + 1) ls
  sm : Sm n e (fE ls (i : Int)) t (n / 2 ^ (i + 1))
  hi : i < 5
theorem Rs.more (h : Rs n i e ls t) {j : Nat} {u v : Int} (hc : Conn (fE ls (j : Int)) u v) : Conn (fE (ls.map (rsL (i : Int) t)) (j : Int)) u v := hc.more fun _ hd => (fE_rs h.hi).2 (.inl hd)
theorem Rs.low (h : Rs n i e ls t) {j : Nat} (hj : j ≠ i + 1) {d : EdgeV} : d ∈ fE (ls.map (rsL (i : Int) t)) (j : Int) ↔ d ∈ fE ls (j : Int) := by
  rw [fE_rs h.hi]
  exact ⟨fun h1 => h1.elim id fun h2 => absurd h2.1 hj, .inl⟩
/-- in the tree that is raised all hang together one Level up -/
theorem Rs.up (h : Rs n i e ls t) (hi4 : i < 4) {u v : Int} (hu : u ∈ t) (hv : v ∈ t) : Conn (fE (ls.map (rsL (i : Int) t)) ((i + 1 : Nat) : Int)) u v := fun S hS hSu => by
  have hc := (h.sm.cmp u hu v).1 hv
  have := hc (fun x => x ∈ t ∧ S x) (fun d hd => by
    have hb := h.sm.both hd
    by_cases h1 : d.1 ∈ t
    · have hd2 : d ∈ fE (ls.map (rsL (i : Int) t)) ((i + 1 : Nat) : Int) := (fE_rs h.hi).2 (.inr ⟨rfl, hi4, hd, h1⟩)
      have := hS d hd2
      exact ⟨fun h2 => ⟨hb.1 h1, this.1 h2.2⟩, fun h2 => ⟨h1, this.2 h2.2⟩⟩
    · exact ⟨fun h2 => absurd h2.1 h1, fun h2 => absurd (hb.2 h2.1) h1⟩) ⟨hu, hSu⟩
  exact this.2
/-- .. and it is small enough there -/
theorem Rs.sz (h : Rs n i e ls t) {j : Nat} (hij : i < j) (hj : j < 5) : Szb (fE (ls.map (rsL (i : Int) t)) (j : Int)) n (n / 2 ^ j) := by
  by_cases hj1 : j = i + 1
  · subst hj1
    intro L h1 h2 h3 h4
    have hsub : ∀ {u v : Int}, Conn (fE (ls.map (rsL (i : Int) t)) ((i + 1 : Nat) : Int)) u v → Conn (fE ls (i : Int)) u v := fun hc => hc.more fun d hd => by
      rcases (fE_rs h.hi).1 hd with h5 | h5
      · exact fE_low (by omega) h5
      · exact h5.2.2.1
    by_cases hin : ∃ x ∈ L, x ∈ t
    · obtain ⟨x, hx, hxt⟩ := hin
      exact h.sm.sz L h1 h2 fun y hy => (h.sm.cmp x hxt y).2 (hsub (h3 x hx y hy))
    · refine h.ts.szh (i + 1) (by omega) hj L h1 h2 (fun x hx y hy => ?_) h4
      have hxt : x ∉ t := fun h5 => hin ⟨x, hx, h5⟩
      intro S hS hSx
      have := h3 x hx y hy (fun v => v ∉ t ∧ S v) (fun d hd => by
        have hdi : d ∈ fE ls (i : Int) := by
          rcases (fE_rs h.hi).1 hd with h5 | h5
          · exact fE_low (by omega) h5
          · exact h5.2.2.1
        have hb := h.sm.both hdi
        by_cases h6 : d.1 ∈ t
        · exact ⟨fun h7 => absurd h6 h7.1, fun h7 => absurd (hb.1 h6) h7.1⟩
        · have hd1 : d ∈ fE ls ((i + 1 : Nat) : Int) := by
            rcases (fE_rs h.hi).1 hd with h5 | h5
            · exact h5
            · exact absurd h5.2.2.2 h6
          have := hS d hd1
          exact ⟨fun h7 => ⟨fun h8 => h6 (hb.2 h8), this.1 h7.2⟩, fun h7 => ⟨h6, this.2 h7.2⟩⟩) ⟨hxt, hSx⟩
      exact this.2
  · refine (h.ts.szh j (by omega) hj).sub fun d hd => Conn.edge ((h.low hj1).1 hd)
/-- what is beside the forest and has no end in the tree hangs together without the edge -/
theorem Rs.out (h : Rs n i e ls t) {u v : Int} (hc : Conn (e :: fE ls (i : Int)) u v) (hu : u ∉ t) (hv : v ∉ t) : Conn (fE ls (i : Int)) u v := fun S hS hSu => by
  obtain ⟨r, p, hrp, hr, hp⟩ := h.sm.r
  have := hc (fun x => (x ∈ t ∧ S p) ∨ (x ∉ t ∧ S x)) (fun d hd => by
    rcases List.mem_cons.1 hd with rfl | hd
    · rcases hrp with ⟨rfl, rfl⟩ | ⟨rfl, rfl⟩
      · exact ⟨fun h1 => .inr ⟨hp, h1.elim (fun h => h.2) fun h => absurd hr h.1⟩, fun h1 => .inl ⟨hr, h1.elim (fun h => h.2) fun h => h.2⟩⟩
      · exact ⟨fun h1 => .inl ⟨hr, h1.elim (fun h => h.2) fun h => h.2⟩, fun h1 => .inr ⟨hp, h1.elim (fun h => h.2) fun h => absurd hr h.1⟩⟩
    · have hb := h.sm.both hd
      have hs := hS d hd
      by_cases h1 : d.1 ∈ t
      · have h2 := hb.1 h1
        exact ⟨fun h3 => .inl ⟨h2, h3.elim (fun h => h.2) fun h => absurd h1 h.1⟩, fun h3 => .inl ⟨h1, h3.elim (fun h => h.2) fun h => absurd h2 h.1⟩⟩
      · have h2 : d.2 ∉ t := fun h => h1 (hb.2 h)
        exact ⟨fun h3 => .inr ⟨h2, h3.elim (fun h => absurd h.1 h1) fun h => hs.1 h.2⟩, fun h3 => .inr ⟨h1, h3.elim (fun h => absurd h.1 h2) fun h => hs.2 h.2⟩⟩) (.inr ⟨hu, hSu⟩)
  exact this.elim (fun h => absurd h.1 hv) fun h => h.2
/-- one that has one end in it holds together what the edge held together -/
theorem Rs.hit (h : Rs n i e ls t) {u v : Int} (hc : Conn (e :: fE ls (i : Int)) u v) (hu : u ∈ t) (hv : v ∉ t) : ∃ r p : Int, ((r = e.1 ∧ p = e.2) ∨ (r = e.2 ∧ p = e.1)) ∧ Conn (fE ls (i : Int)) r u ∧ Conn (fE ls (i : Int)) p v := by
  obtain ⟨r, p, hrp, hr, hp⟩ := h.sm.r
  refine ⟨r, p, hrp, (h.sm.cmp r hr u).1 hu, fun S hS hSp => ?_⟩
  have := hc (fun x => x ∈ t ∨ S x) (fun d hd => by
    rcases List.mem_cons.1 hd with rfl | hd
    · rcases hrp with ⟨rfl, rfl⟩ | ⟨rfl, rfl⟩
      · exact ⟨fun _ => .inr hSp, fun _ => .inl hr⟩
      · exact ⟨fun _ => .inl hr, fun _ => .inr hSp⟩
    · have hb := h.sm.both hd
      have hs := hS d hd
      exact ⟨fun h1 => h1.elim (fun h => .inl (hb.1 h)) fun h => .inr (hs.1 h), fun h1 => h1.elim (fun h => .inl (hb.2 h)) fun h => .inr (hs.2 h)⟩) (.inl hu)
  exact this.elim (fun h => absurd h hv) id

/-- nothing takes the place at this Level -/
theorem Rs.down (h : Rs n i e ls t) (hno : ∀ x ∈ ls.map (rsL (i : Int) t), ¬ hitL (i : Int) t x) : TS n e i ((ls.map (rsL (i : Int) t)).map (srL (i : Int) t)) := by
  have hf : ∀ (j : Nat) (d : EdgeV), d ∈ fE ((ls.map (rsL (i : Int) t)).map (srL (i : Int) t)) (j : Int) ↔ d ∈ fE (ls.map (rsL (i : Int) t)) (j : Int) := fun j d => fE_sr
  have hlow : ∀ (j : Nat), j ≠ i + 1 → ∀ d, d ∈ fE ((ls.map (rsL (i : Int) t)).map (srL (i : Int) t)) (j : Int) ↔ d ∈ fE ls (j : Int) := fun j hj d => (hf j d).trans (h.low hj)
  have hmore : ∀ (j : Nat) {u v : Int}, Conn (fE ls (j : Int)) u v → Conn (fE ((ls.map (rsL (i : Int) t)).map (srL (i : Int) t)) (j : Int)) u v := fun j u v hc => (h.more hc).more fun d hd => (hf j d).2 hd
  have hi5 := h.hi
  refine ⟨h.ts.st.down ⟨by omega, by omega⟩ t t, fun hc => h.ts.no (hc.more fun d hd => (hlow 0 (by omega) d).1 hd), h.ts.ends, fun j hj hj5 => ?_, fun j hj hj5 => ?_, fun x hx hxt hxl => ?_, fun x hx hxt hxl => ?_⟩
  · refine (h.ts.szl j (by omega) hj5).sub fun d hd => ?_
    rcases List.mem_cons.1 hd with rfl | hd
    · exact Conn.edge (by simp)
    · exact Conn.edge (List.mem_cons_of_mem _ ((hlow j (by omega) d).1 hd))
  · by_cases hji : j = i
    · subst hji
      exact (h.ts.szl j (by omega) hj5).sub fun d hd => Conn.edge (List.mem_cons_of_mem _ ((hlow j (by omega) d).1 hd))
    · exact (h.sz (by omega) hj5).sub fun d hd => Conn.edge ((hf j d).1 hd)
  · obtain ⟨y, hy, rfl⟩ := List.mem_map.1 hx
    obtain ⟨z, hz, rfl⟩ := List.mem_map.1 hy
    rw [sr_t, rsT_t] at hxt
    rw [rsT_non hxt] at hxl ⊢
    have hzl := h.ts.st.l z hz
    by_cases hc : z.t = false ∧ z.l = (i : Int) ∧ z.a ∈ t ∧ z.b ∈ t
    · have ez : srL (i : Int) t z = ⟨z.a, z.b, upL (i : Int), z.t⟩ := by unfold srL; rw [if_pos hc]
      rw [ez] at hxl
      have : (upL (i : Int)) < (i : Int) := hxl
      unfold upL at this
      split at this <;> omega
    · have ez : srL (i : Int) t z = z := by unfold srL; rw [if_neg hc]
      rw [ez] at hxl ⊢
      obtain ⟨m, hm⟩ : ∃ m : Nat, z.l = (m : Int) := ⟨z.l.toNat, by omega⟩
      have hcn := h.ts.ntl z hz hxt (by omega)
      rw [hm] at hcn ⊢
      refine hcn.more fun d hd => ?_
      rcases List.mem_cons.1 hd with rfl | hd
      · simp
      · exact List.mem_cons_of_mem _ ((hlow m (by omega) d).2 hd)
  · obtain ⟨y, hy, rfl⟩ := List.mem_map.1 hx
    obtain ⟨z, hz, rfl⟩ := List.mem_map.1 hy
    have hnh := hno _ hy
    rw [sr_t, rsT_t] at hxt
    rw [rsT_non hxt] at hxl hnh ⊢
    have hzl := h.ts.st.l z hz
    by_cases hc : z.t = false ∧ z.l = (i : Int) ∧ z.a ∈ t ∧ z.b ∈ t
    · have ez : srL (i : Int) t z = ⟨z.a, z.b, upL (i : Int), z.t⟩ := by unfold srL; rw [if_pos hc]
      rw [ez] at hxl ⊢
      show Conn (fE _ (upL (i : Int))) z.a z.b
      by_cases hi4 : i < 4
      · have e1 : upL (i : Int) = ((i + 1 : Nat) : Int) := by unfold upL; split <;> omega
        show Conn (fE ((ls.map (rsL (i : Int) t)).map (srL (i : Int) t)) (upL (i : Int))) z.a z.b
        generalize hL : (ls.map (rsL (i : Int) t)).map (srL (i : Int) t) = L1 at *
        rw [e1]
        exact (h.up hi4 hc.2.2.1 hc.2.2.2).more fun d hd => (hf (i + 1) d).2 hd
      · have e1 : upL (i : Int) = (i : Int) := by unfold upL; split <;> omega
        generalize hL : (ls.map (rsL (i : Int) t)).map (srL (i : Int) t) = L1 at *
        rw [e1]
        exact hmore i ((h.sm.cmp z.a hc.2.2.1 z.b).1 hc.2.2.2)
    · have ez : srL (i : Int) t z = z := by unfold srL; rw [if_neg hc]
      rw [ez] at hxl ⊢
      obtain ⟨m, hm⟩ : ∃ m : Nat, z.l = (m : Int) := ⟨z.l.toNat, by omega⟩
      rw [hm] at hxl ⊢
      by_cases hmi : m = i
      · subst hmi
        have hcn := h.ts.ntl z hz hxt (by omega)
        rw [hm] at hcn
        have hab : z.a ∉ t ∧ z.b ∉ t := by
          unfold hitL at hnh
          by_cases h1 : z.a ∈ t
          · by_cases h2 : z.b ∈ t
            · exact absurd ⟨hxt, hm, h1, h2⟩ hc
            · exact absurd ⟨hxt, hm, fun h3 => h2 h3.2, .inl h1⟩ hnh
          · by_cases h2 : z.b ∈ t
            · exact absurd ⟨hxt, hm, fun h3 => h1 h3.1, .inr h2⟩ hnh
            · exact ⟨h1, h2⟩
        exact hmore m (h.out hcn hab.1 hab.2)
      · have := h.ts.nth z hz hxt (by omega)
        rw [hm] at this
        exact hmore m this
end
end Go.Proofs.YtkkplppcgnikoaaGreat
namespace Go.Proofs.YtkkplppcgnikoaaGreat

section
variable {n i : Nat} {e : EdgeV} {ls : List Ld} {t : List Int}
theorem gE_srmap {i : Int} {t : List Int} (L : List Ld) : gE (L.map (srL i t)) = gE L := by
  unfold gE
  rw [List.map_map]
  refine List.map_congr_left fun x _ => ?_
  show (srL i t x).e = x.e
  unfold srL Ld.e
  split <;> rfl
theorem gE_rsmap {i : Int} {t : List Int} (L : List Ld) : gE (L.map (rsL i t)) = gE L := by
  unfold gE
  rw [List.map_map]
  refine List.map_congr_left fun x _ => ?_
  show (rsL i t x).e = x.e
  unfold rsL Ld.e
  split <;> rfl
theorem sr_l {i : Nat} (hi : i < 5) {t : List Int} {x : Ld} (h : 0 ≤ x.l ∧ x.l ≤ 4) : 0 ≤ (srL (i : Int) t x).l ∧ (srL (i : Int) t x).l ≤ 4 := by
  unfold srL
  split
  · exact upL_in ⟨by omega, by omega⟩
  · exact h
/-- one takes the place at this Level -/
theorem Rs.found (h : Rs n i e ls t) {k : Nat} {x : Ld} (hk : (ls.map (rsL (i : Int) t))[k]? = some x) (hx : hitL (i : Int) t x) :
    WC n (((ls.map (rsL (i : Int) t)).take k).map (srL (i : Int) t) ++ ⟨x.a, x.b, x.l, true⟩ :: (ls.map (rsL (i : Int) t)).drop (k + 1)) := by
  have hi5 := h.hi
  have hxm := List.mem_of_getElem? hk
  have hR : Stg n (ls.map (rsL (i : Int) t)) := h.ts.st.keep (keep_rs ⟨by omega, by omega⟩ t)
  obtain ⟨hxt, hxl, hnb, hor⟩ := hx
  -- the edge as it stood
  obtain ⟨z, hz, hzx⟩ := List.mem_map.1 hxm
  have hzt : z.t = false := by rw [← hzx, rsT_t] at hxt; exact hxt
  rw [rsT_non hzt] at hzx
  subst hzx
  have hcn := h.ts.ntl z hz hxt (by omega)
  rw [hxl] at hcn
  -- which end lies in the tree
  obtain ⟨u, v, huv, hu, hv⟩ : ∃ u v : Int, ((u = z.a ∧ v = z.b) ∨ (u = z.b ∧ v = z.a)) ∧ u ∈ t ∧ v ∉ t := by
    by_cases ha : z.a ∈ t
    · exact ⟨z.a, z.b, .inl ⟨rfl, rfl⟩, ha, fun hb => hnb ⟨ha, hb⟩⟩
    · rcases hor with h1 | h1
      · exact absurd h1 ha
      · exact ⟨z.b, z.a, .inr ⟨rfl, rfl⟩, h1, ha⟩
  have hcuv : Conn (e :: fE ls (i : Int)) u v := by
    rcases huv with ⟨rfl, rfl⟩ | ⟨rfl, rfl⟩
    · exact hcn
    · exact hcn.symm
  obtain ⟨r, p, hrp, hru, hpv⟩ := h.hit hcuv hu hv
  generalize hRd : ls.map (rsL (i : Int) t) = R at *
  have hsplit : R = R.take k ++ z :: R.drop (k + 1) := by
    obtain ⟨hk1, hk2⟩ := List.getElem?_eq_some_iff.1 hk
    rw [← hk2, ← List.drop_eq_getElem_cons hk1, List.take_append_drop]
  obtain ⟨Q, hQ⟩ : ∃ Q, Q = (R.take k).map (srL (i : Int) t) ++ ⟨z.a, z.b, z.l, true⟩ :: R.drop (k + 1) := ⟨_, rfl⟩
  rw [← hQ]
  -- the forest's edges now
  have hF : ∀ (j : Nat) (d : EdgeV), d ∈ fE Q (j : Int) ↔ d ∈ fE R (j : Int) ∨ (d = z.e ∧ j ≤ i) := fun j d => by
    have e1 : ∀ A B : List Ld, fE (A ++ B) (j : Int) = fE A (j : Int) ++ fE B (j : Int) := fun A B => by simp [fE]
    rw [hQ]
    conv => rhs; rw [hsplit]
    rw [e1, e1, List.mem_append, List.mem_append, fE_sr]
    have c1 : d ∈ fE ((⟨z.a, z.b, z.l, true⟩ : Ld) :: R.drop (k + 1)) (j : Int) ↔ (d = z.e ∧ j ≤ i) ∨ d ∈ fE (R.drop (k + 1)) (j : Int) := by
      rw [fE_mem, fE_mem]
      constructor
      · rintro ⟨y, hy, h1, h2, h3⟩
        rcases List.mem_cons.1 hy with rfl | hy
        · exact .inl ⟨h3.symm, by have h2' : (j : Int) ≤ z.l := h2; omega⟩
        · exact .inr ⟨y, hy, h1, h2, h3⟩
      · rintro (⟨h1, h2⟩ | ⟨y, hy, h1, h2, h3⟩)
        · exact ⟨_, List.mem_cons_self, rfl, by show (j : Int) ≤ z.l; omega, h1.symm⟩
        · exact ⟨y, List.mem_cons_of_mem _ hy, h1, h2, h3⟩
    have c2 : d ∈ fE (z :: R.drop (k + 1)) (j : Int) ↔ d ∈ fE (R.drop (k + 1)) (j : Int) := by
      rw [fE_mem, fE_mem]
      constructor
      · rintro ⟨y, hy, h1, h2, h3⟩
        rcases List.mem_cons.1 hy with rfl | hy
        · rw [hxt] at h1; cases h1
        · exact ⟨y, hy, h1, h2, h3⟩
      · rintro ⟨y, hy, h1, h2, h3⟩
        exact ⟨y, List.mem_cons_of_mem _ hy, h1, h2, h3⟩
    rw [c1, c2]
    constructor
    · rintro (h1 | h1 | h1)
      · exact .inl (.inl h1)
      · exact .inr h1
      · exact .inl (.inr h1)
    · rintro ((h1 | h1) | h1)
      · exact .inl h1
      · exact .inr (.inr h1)
      · exact .inr (.inl h1)
  have hlow : ∀ {j : Nat}, j ≠ i + 1 → ∀ {d : EdgeV}, d ∈ fE R (j : Int) ↔ d ∈ fE ls (j : Int) := fun hj d => by rw [← hRd]; exact h.low hj
  have hmR : ∀ {j : Nat} {u v : Int}, Conn (fE ls (j : Int)) u v → Conn (fE R (j : Int)) u v := fun hc => by rw [← hRd]; exact h.more hc
  have hmQ : ∀ {j : Nat} {u v : Int}, Conn (fE ls (j : Int)) u v → Conn (fE Q (j : Int)) u v := fun hc => (hmR hc).more fun d hd => (hF _ d).2 (.inl hd)
  have hz1 : ∀ {j : Nat}, j ≤ i → Conn (fE Q (j : Int)) z.a z.b := fun hj => Conn.edge (e := z.e) ((hF _ _).2 (.inr ⟨rfl, hj⟩))
  -- the ends of the edge that went hang together again
  have he : ∀ {j : Nat}, j ≤ i → Conn (fE Q (j : Int)) e.1 e.2 := fun {j} hj => by
    have l1 : ∀ {u v : Int}, Conn (fE ls (i : Int)) u v → Conn (fE Q (j : Int)) u v := fun hc => hmQ (hc.more fun d hd => fE_low (by omega) hd)
    have huv' : Conn (fE Q (j : Int)) u v := by
      rcases huv with ⟨rfl, rfl⟩ | ⟨rfl, rfl⟩
      · exact hz1 hj
      · exact (hz1 hj).symm
    have hrp' : Conn (fE Q (j : Int)) r p := (l1 hru).trans (huv'.trans (l1 hpv).symm)
    rcases hrp with ⟨rfl, rfl⟩ | ⟨rfl, rfl⟩
    · exact hrp'
    · exact hrp'.symm
  have hnz : ¬ Conn (fE R 0) z.a z.b := fun hc => by
    have hc0 : Conn (fE ls 0) z.a z.b := hc.more fun d hd => (hlow (j := 0) (by omega)).1 hd
    have l1 : ∀ {u v : Int}, Conn (fE ls (i : Int)) u v → Conn (fE ls 0) u v := fun hc => hc.more fun d hd => fE_low (by omega) hd
    have huv' : Conn (fE ls 0) u v := by
      rcases huv with ⟨rfl, rfl⟩ | ⟨rfl, rfl⟩
      · exact hc0
      · exact hc0.symm
    have hrp' : Conn (fE ls 0) r p := (l1 hru).trans (huv'.trans (l1 hpv).symm)
    rcases hrp with ⟨rfl, rfl⟩ | ⟨rfl, rfl⟩
    · exact h.ts.no hrp'
    · exact h.ts.no hrp'.symm
  refine ⟨⟨?_, fun y hy => ?_, ?_⟩, fun j hj => ?_, fun y hy hyt => ?_⟩
  · have e1 : gE Q = gE R := by
      rw [hQ]
      conv => rhs; rw [hsplit]
      have e2 : ∀ A B : List Ld, gE (A ++ B) = gE A ++ gE B := fun A B => by simp [gE]
      rw [e2, e2, gE_srmap]
      rfl
    rw [e1]
    exact hR.g
  · rw [hQ] at hy
    rcases List.mem_append.1 hy with h1 | h1
    · obtain ⟨y', hy', rfl⟩ := List.mem_map.1 h1
      exact sr_l hi5 (hR.l y' (List.mem_of_mem_take hy'))
    · rcases List.mem_cons.1 h1 with rfl | h1
      · exact hR.l z hxm
      · exact hR.l y (List.mem_of_mem_drop h1)
  · exact hR.br.add hnz fun d hd => by
      rcases (hF 0 d).1 hd with h1 | h1
      · exact .inl h1
      · exact .inr h1.1
  · by_cases hji : j ≤ i
    · refine (h.ts.szl j (by omega) hj).sub fun d hd => ?_
      rcases (hF j d).1 hd with h1 | h1
      · exact Conn.edge (List.mem_cons_of_mem _ ((hlow (by omega)).1 h1))
      · rw [h1.1]
        exact hcn.more fun d hd => by
          rcases List.mem_cons.1 hd with rfl | hd
          · simp
          · exact List.mem_cons_of_mem _ (fE_low (by omega) hd)
    · have hs : Szb (fE R (j : Int)) n (n / 2 ^ j) := by rw [← hRd]; exact h.sz (by omega) hj
      refine hs.sub fun d hd => ?_
      rcases (hF j d).1 hd with h1 | h1
      · exact Conn.edge h1
      · exact absurd h1.2 hji
  · -- what is beside the forest
    have hkeep : ∀ y ∈ R, y.t = false → Conn (fE Q y.l) y.a y.b := fun y hyR ht' => by
      obtain ⟨y0, hy0, hy1⟩ := List.mem_map.1 (by rw [← hRd] at hyR; exact hyR)
      have ht0 : y0.t = false := by rw [← hy1, rsT_t] at ht'; exact ht'
      rw [rsT_non ht0] at hy1
      subst hy1
      have hl0 := h.ts.st.l y0 hy0
      obtain ⟨m, hm⟩ : ∃ m : Nat, y0.l = (m : Int) := ⟨y0.l.toNat, by omega⟩
      by_cases hmi : m ≤ i
      · have hc := h.ts.ntl y0 hy0 ht0 (by omega)
        rw [hm] at hc ⊢
        refine conn_sub hc fun d hd => ?_
        rcases List.mem_cons.1 hd with rfl | hd
        · exact he hmi
        · exact hmQ (Conn.edge hd)
      · have hc := h.ts.nth y0 hy0 ht0 (by omega)
        rw [hm] at hc ⊢
        exact hmQ hc
    rw [hQ] at hy
    rcases List.mem_append.1 hy with h1 | h1
    · obtain ⟨y', hy', rfl⟩ := List.mem_map.1 h1
      rw [sr_t] at hyt
      have hyR := List.mem_of_mem_take hy'
      by_cases hc : y'.t = false ∧ y'.l = (i : Int) ∧ y'.a ∈ t ∧ y'.b ∈ t
      · have ez : srL (i : Int) t y' = ⟨y'.a, y'.b, upL (i : Int), y'.t⟩ := by unfold srL; rw [if_pos hc]
        rw [ez]
        show Conn (fE Q (upL (i : Int))) y'.a y'.b
        by_cases hi4 : i < 4
        · have e1 : upL (i : Int) = ((i + 1 : Nat) : Int) := by unfold upL; split <;> omega
          rw [e1]
          have := h.up hi4 hc.2.2.1 hc.2.2.2
          rw [hRd] at this
          exact this.more fun d hd => (hF _ d).2 (.inl hd)
        · have e1 : upL (i : Int) = (i : Int) := by unfold upL; split <;> omega
          rw [e1]
          exact hmQ ((h.sm.cmp y'.a hc.2.2.1 y'.b).1 hc.2.2.2)
      · have ez : srL (i : Int) t y' = y' := by unfold srL; rw [if_neg hc]
        rw [ez]
        exact hkeep y' hyR hyt
    · rcases List.mem_cons.1 h1 with rfl | h1
      · cases hyt
      · exact hkeep y (List.mem_of_mem_drop h1) hyt
end

/-- the first that takes the place, or none -/
theorem first_hit (i : Int) (t : List Int) (L : List Ld) : (∀ x ∈ L, ¬ hitL i t x) ∨ ∃ (k : Nat) (x : Ld), L[k]? = some x ∧ hitL i t x ∧ ∀ y ∈ L.take k, ¬ hitL i t y := by
  induction L with
  | nil => exact .inl (by simp)
  | cons a L ih =>
    by_cases ha : hitL i t a
    · exact .inr ⟨0, a, rfl, ha, by simp⟩
    · rcases ih with h | ⟨k, x, h1, h2, h3⟩
      · refine .inl fun x hx => ?_
        rcases List.mem_cons.1 hx with rfl | hx
        · exact ha
        · exact h x hx
      · refine .inr ⟨k + 1, x, by simpa using h1, h2, fun y hy => ?_⟩
        rw [List.take_succ_cons] at hy
        rcases List.mem_cons.1 hy with rfl | hy
        · exact ha
        · exact h3 y hy
/-- all Levels below k -/
theorem tkO_ok {n : Nat} {e : EdgeV} : ∀ (k : Nat) {ls : List Ld}, k ≤ 5 → TS n e k ls → WC n (tkO n e k ls).1
  | 0, ls, _, h => h.done
  | i + 1, ls, hk, h => by
    have hr : Rs n i e ls (smT (lvT n ls (i : Int)) e) := ⟨h, h.sm (by omega), by omega⟩
    rcases first_hit (i : Int) (smT (lvT n ls (i : Int)) e) (ls.map (rsL (i : Int) (smT (lvT n ls (i : Int)) e))) with hno | ⟨k, x, h1, h2, h3⟩
    · have hl := lvO_none (n := n) (e := e) hno
      have hd : (lvO n e (i : Int) ls).2 = none := by rw [hl]
      rw [tkO_down hd, hl]
      exact tkO_ok i (by omega) (hr.down hno)
    · have hl : lvO n e (i : Int) ls = _ := srO_hit h1 h2 h3
      rw [tkO_found (f := x.e) (by rw [hl]), hl]
      exact hr.found h1 h2

theorem out_mem {ls : List Ld} {e : EdgeV} {x : Ld} : x ∈ ouL ls e ↔ x ∈ ls ∧ x.e ≠ e := by
  unfold ouL
  rw [List.mem_filter]
  simp
/-- an edge of the forest goes: where the search begins -/
theorem TS.start {n : Nat} {ls : List Ld} (h : WC n ls) {x : Ld} (hx : x ∈ ls) (hxt : x.t = true) : TS n x.e (x.l.toNat + 1) (ouL ls x.e) := by
  have hl := h.st.l x hx
  have hends := h.st.ends hx
  have huniq : ∀ y ∈ ls, y.e = x.e → y = x := fun y hy he => by
    have hnd := gB_nodup h.st.g
    unfold gE at hnd
    have h1 : ls.Pairwise fun a b => a.e ≠ b.e := List.pairwise_map.1 hnd
    obtain ⟨i, hi⟩ := List.mem_iff_getElem?.1 hy
    obtain ⟨j, hj⟩ := List.mem_iff_getElem?.1 hx
    obtain ⟨q0, q1⟩ := List.getElem?_eq_some_iff.1 hi
    obtain ⟨q2, q3⟩ := List.getElem?_eq_some_iff.1 hj
    rcases Nat.lt_trichotomy i j with h2 | h2 | h2
    · have := List.pairwise_iff_getElem.1 h1 i j q0 q2 h2
      rw [q1, q3] at this
      exact absurd he this
    · subst h2
      rw [← q1, ← q3]
    · have := List.pairwise_iff_getElem.1 h1 j i q2 q0 h2
      rw [q1, q3] at this
      exact absurd he.symm this
  have hF : ∀ (j : Int) (d : EdgeV), d ∈ fE ls j ↔ d ∈ fE (ouL ls x.e) j ∨ (d = x.e ∧ j ≤ x.l) := fun j d => by
    rw [fE_mem, fE_mem]
    constructor
    · rintro ⟨y, hy, h1, h2, h3⟩
      by_cases hye : y.e = x.e
      · have := huniq y hy hye
        subst this
        exact .inr ⟨h3.symm, h2⟩
      · exact .inl ⟨y, out_mem.2 ⟨hy, hye⟩, h1, h2, h3⟩
    · rintro (⟨y, hy, h1, h2, h3⟩ | ⟨h1, h2⟩)
      · exact ⟨y, (out_mem.1 hy).1, h1, h2, h3⟩
      · exact ⟨x, hx, hxt, h2, h1.symm⟩
  have hne : ∀ (j : Int) (d : EdgeV), d ∈ fE (ouL ls x.e) j → d ≠ x.e := fun j d hd => by
    obtain ⟨y, hy, _, _, h3⟩ := fE_mem.1 hd
    rw [← h3]
    exact (out_mem.1 hy).2
  refine ⟨h.st.out x.e, ?_, ⟨⟨by show 0 ≤ x.a; omega, by show x.a < _; omega⟩, by show 0 ≤ x.b; omega, by show x.b < _; omega⟩, fun j hj hj5 => ?_, fun j hj hj5 => ?_, fun y hy hyt hyl => ?_, fun y hy hyt hyl => ?_⟩
  · intro hc
    obtain ⟨S, h1, h2, h3⟩ := h.st.br x.e ((hF 0 x.e).2 (.inr ⟨rfl, by omega⟩))
    exact hc (fun v => ¬ S v) (fun d hd => not_congr (h3 d ((hF 0 d).2 (.inl hd)) (hne 0 d hd))) h2 h1
  · refine (h.sz j hj5).sub fun d hd => Conn.edge ?_
    rcases List.mem_cons.1 hd with rfl | hd
    · exact (hF _ _).2 (.inr ⟨rfl, by omega⟩)
    · exact (hF _ _).2 (.inl hd)
  · exact (h.sz j hj5).sub fun d hd => Conn.edge ((hF _ _).2 (.inl hd))
  · refine (h.nt y (out_mem.1 hy).1 hyt).more fun d hd => ?_
    rcases (hF _ _).1 hd with h1 | h1
    · exact List.mem_cons_of_mem _ h1
    · rw [h1.1]; simp
  · refine (h.nt y (out_mem.1 hy).1 hyt).more fun d hd => ?_
    rcases (hF _ _).1 hd with h1 | h1
    · exact h1
    · have : y.l ≤ x.l := h1.2
      omega
/-- an edge beside the forest goes -/
theorem WC.out {n : Nat} {ls : List Ld} (h : WC n ls) {x : Ld} (hx : x ∈ ls) (hxt : x.t = false) : WC n (ouL ls x.e) := by
  have hF : ∀ (j : Int) (d : EdgeV), d ∈ fE ls j ↔ d ∈ fE (ouL ls x.e) j := fun j d => by
    rw [fE_mem, fE_mem]
    constructor
    · rintro ⟨y, hy, h1, h2, h3⟩
      refine ⟨y, out_mem.2 ⟨hy, fun hye => ?_⟩, h1, h2, h3⟩
      have hnd := gB_nodup h.st.g
      unfold gE at hnd
      have hp : ls.Pairwise fun a b => a.e ≠ b.e := List.pairwise_map.1 hnd
      obtain ⟨i, hi⟩ := List.mem_iff_getElem?.1 hy
      obtain ⟨j, hj⟩ := List.mem_iff_getElem?.1 hx
      obtain ⟨q0, q1⟩ := List.getElem?_eq_some_iff.1 hi
      obtain ⟨q2, q3⟩ := List.getElem?_eq_some_iff.1 hj
      rcases Nat.lt_trichotomy i j with h4 | h4 | h4
      · have := List.pairwise_iff_getElem.1 hp i j q0 q2 h4
        rw [q1, q3] at this
        exact this hye
      · subst h4
        rw [← q1, q3] at h1
        rw [h1] at hxt
        cases hxt
      · have := List.pairwise_iff_getElem.1 hp j i q2 q0 h4
        rw [q1, q3] at this
        exact this hye.symm
    · rintro ⟨y, hy, h1, h2, h3⟩
      exact ⟨y, (out_mem.1 hy).1, h1, h2, h3⟩
  exact ⟨h.st.out x.e, fun i hi => (h.sz i hi).sub fun d hd => Conn.edge ((hF _ _).2 hd), fun y hy hyt => (h.nt y (out_mem.1 hy).1 hyt).more fun d hd => (hF _ _).1 hd⟩

/-- WebTake leaves a right web right -/
theorem wtO_ok {n : Nat} {ls : List Ld} {e : EdgeV} {L : List Ld} {r : Option EdgeV} (h : wtO (n : Int) ls e = some (L, r)) : WOk (n : Int) L := by
  unfold wtO at h
  split at h
  · rename_i hc
    have hw := WC.of hc.1
    simp only [Option.some.injEq] at h
    cases hf : ls.find? (fun x => decide (x.e = e)) with
    | none =>
      rw [List.find?_eq_none] at hf
      have hm : e ∈ gE ls := by have := hc.2; unfold hasB at this; exact of_decide_eq_true this
      obtain ⟨y, hy, hye⟩ := List.mem_map.1 hm
      exact absurd (decide_eq_true hye) (hf y hy)
    | some x =>
      rw [hf] at h
      have hx := List.mem_of_find?_eq_some hf
      have hxe : x.e = e := by have := List.find?_some hf; exact of_decide_eq_true this
      subst hxe
      simp only [Int.toNat_natCast] at h
      cases ht : x.t with
      | true =>
        rw [ht, if_pos rfl] at h
        have := tkO_ok (x.l.toNat + 1) (by have := hw.st.l x hx; omega) (TS.start hw hx ht)
        rw [h] at this
        exact this.ok
      | false =>
        rw [ht, if_neg (by simp)] at h
        have := (hw.out hx ht).ok
        have e1 : ouL ls x.e = L := congrArg Prod.fst h
        rw [e1] at this
        exact this
  · cases h
/-- no more than 66 right edges -/
theorem right66 {n : Int} {es : List EdgeV} (hnd : es.Nodup) (hr : ∀ e ∈ es, eB n e = true) : es.length ≤ 66 := by
  have h := nod_le hnd (l := (List.range 12).flatMap fun b : Nat => (List.range b).map fun a : Nat => ((a : Int), (b : Int))) (fun e he => by
    have h1 := hr e he
    unfold eB at h1
    have h2 := of_decide_eq_true h1
    refine List.mem_flatMap.2 ⟨e.2.toNat, List.mem_range.2 (by omega), List.mem_map.2 ⟨e.1.toNat, List.mem_range.2 (by omega), ?_⟩⟩
    exact Prod.ext (by show ((e.1.toNat : Nat) : Int) = e.1; omega) (by show ((e.2.toNat : Nat) : Int) = e.2; omega))
  have e66 : ((List.range 12).flatMap fun b : Nat => (List.range b).map fun a : Nat => ((a : Int), (b : Int))).length = 66 := by decide
  omega
theorem put_pair {es : List EdgeV} {e : EdgeV} (h : es.Pairwise fun d f => lt d f = true) : (putE es e).Pairwise fun d f => lt d f = true := by
  unfold putE
  rw [List.pairwise_append, List.pairwise_append]
  refine ⟨⟨h.filter _, List.pairwise_singleton _ _, fun a ha b hb => ?_⟩, h.filter _, fun a ha b hb => ?_⟩
  · simp at hb
    subst hb
    exact (List.mem_filter.1 ha).2
  · have hb2 := (List.mem_filter.1 hb).2
    rcases List.mem_append.1 ha with h1 | h1
    · exact lt_trans' (List.mem_filter.1 h1).2 hb2
    · simp at h1
      subst h1
      exact hb2
theorem gB_put {n : Int} {es : List EdgeV} {f : EdgeV} (h : gB n es = true) (hf : eB n f = true) : gB n (putE es f) = true := by
  obtain ⟨h1, h2, _⟩ := gB_chk h
  have hp := put_pair (e := f) (asc_pair.1 (asc_of_chk h2))
  have hr : ∀ d ∈ putE es f, eB n d = true := fun d hd => by
    unfold putE at hd
    rcases List.mem_append.1 hd with h3 | h3
    · rcases List.mem_append.1 h3 with h4 | h4
      · exact chk_eB h2 (List.mem_filter.1 h4).1
      · simp at h4; subst h4; exact hf
    · exact chk_eB h2 (List.mem_filter.1 h3).1
  have hnd : (putE es f).Nodup := hp.imp fun {a b} h3 e => by rw [e, lt_irrefl'] at h3; cases h3
  unfold gB
  rw [decide_eq_true h1, chk_of hr (asc_pair.2 hp), decide_eq_true (right66 hnd hr)]
  rfl
/-- WebAdd leaves a right web right -/
theorem waO_ok {n : Nat} {ls : List Ld} {f : EdgeV} {L : List Ld} (h : waO (n : Int) ls f = some L) : WOk (n : Int) L := by
  by_cases hc : WOk (n : Int) ls ∧ eB (n : Int) f = true ∧ hasB (gE ls) f = false
  · rw [waO_yes hc.1 hc.2.1 hc.2.2] at h
    simp only [Option.some.injEq] at h
    have hw := WC.of hc.1
    have hn := hw.st.n12
    obtain ⟨k, hk, _, hput⟩ := put_at (x := cmL (n : Int) ls f) hw.st.g hc.2.2
    rw [hput] at h
    obtain ⟨ts, hts, hA⟩ := hc.1.trees 0 (by omega)
    have hgt := gndT_is hts
    have hfe : 0 ≤ f.1 ∧ f.1 < f.2 ∧ f.2 < (n : Int) := by
      have := hc.2.1
      unfold eB at this
      have := of_decide_eq_true this
      omega
    have hcm : (cmL (n : Int) ls f).t = true ↔ ¬ Conn (fE ls 0) f.1 f.2 := by
      have e1 := tr_same hA (u := f.1) (v := f.2) ⟨by omega, by omega⟩ ⟨by omega, by omega⟩
      unfold cmL
      rw [hgt]
      show decide (trI ts f.1 ≠ trI ts f.2) = true ↔ _
      rw [decide_eq_true_iff, Ne, e1]
      exact Iff.rfl
    have hmem : ∀ y, y ∈ L ↔ y ∈ ls ∨ y = cmL (n : Int) ls f := fun y => by
      rw [← h]
      generalize cmL (n : Int) ls f = x0
      conv => rhs; rw [← List.take_append_drop k ls]
      simp only [List.mem_append, List.mem_singleton]
      constructor
      · rintro ((h1 | h1) | h1)
        · exact .inl (.inl h1)
        · exact .inr h1
        · exact .inl (.inr h1)
      · rintro ((h1 | h1) | h1)
        · exact .inl (.inl h1)
        · exact .inr h1
        · exact .inl (.inr h1)
    have hF : ∀ (j : Int) (d : EdgeV), d ∈ fE L j ↔ d ∈ fE ls j ∨ (d = f ∧ j ≤ 0 ∧ (cmL (n : Int) ls f).t = true) := fun j d => by
      rw [fE_mem, fE_mem]
      constructor
      · rintro ⟨y, hy, h1, h2, h3⟩
        rcases (hmem y).1 hy with h4 | rfl
        · exact .inl ⟨y, h4, h1, h2, h3⟩
        · exact .inr ⟨h3.symm, h2, h1⟩
      · rintro (⟨y, hy, h1, h2, h3⟩ | ⟨h1, h2, h3⟩)
        · exact ⟨y, (hmem y).2 (.inl hy), h1, h2, h3⟩
        · exact ⟨_, (hmem _).2 (.inr rfl), h3, h2, h1.symm⟩
    have hmore : ∀ {j : Int} {u v : Int}, Conn (fE ls j) u v → Conn (fE L j) u v := fun hcc => hcc.more fun d hd => (hF _ d).2 (.inl hd)
    refine WC.ok ⟨⟨?_, fun y hy => ?_, ?_⟩, fun j hj => ?_, fun y hy hyt => ?_⟩
    · have e2 : gE L = putE (gE ls) f := by
        rw [← h, ← hput]
        unfold putL putE gE
        simp only [List.map_append, List.filter_map]
        rfl
      rw [e2]
      exact gB_put hw.st.g hc.2.1
    · rcases (hmem y).1 hy with h4 | rfl
      · exact hw.st.l y h4
      · exact ⟨Int.le_refl _, by show (0 : Int) ≤ 4; omega⟩
    · cases ht : (cmL (n : Int) ls f).t with
      | true =>
        refine hw.st.br.add (hcm.1 ht) fun d hd => ?_
        rcases (hF 0 d).1 hd with h1 | h1
        · exact .inl h1
        · exact .inr h1.1
      | false =>
        refine hw.st.br.sub fun d hd => ?_
        rcases (hF 0 d).1 hd with h1 | h1
        · exact h1
        · rw [ht] at h1; cases h1.2.2
    · by_cases hj0 : j = 0
      · subst hj0
        intro M h1 h2 _ _
        have := nod_le h1 (l := (List.range n).map fun (q : Nat) => (q : Int)) (fun x hx => List.mem_map.2 ⟨x.toNat, List.mem_range.2 (by have := h2 x hx; omega), by have := h2 x hx; omega⟩)
        simpa using this
      · refine (hw.sz j hj).sub fun d hd => ?_
        rcases (hF _ d).1 hd with h1 | h1
        · exact Conn.edge h1
        · omega
    · rcases (hmem y).1 hy with h4 | rfl
      · exact hmore (hw.nt y h4 hyt)
      · have hcc : Conn (fE ls 0) f.1 f.2 := Classical.byContradiction fun hno => by
          rw [hcm.2 hno] at hyt
          cases hyt
        exact hmore hcc
  · rw [waO_no hc] at h
    cases h
end Go.Proofs.YtkkplppcgnikoaaGreat
namespace Go.Proofs.YtkkplppcgnikoaaGreat
open Go.RowKit

def wnM (n : Int) : Int := if 1 ≤ n ∧ n ≤ 12 then n else 0
def wnB (n : Int) : Bool := decide (1 ≤ n ∧ n ≤ 12)
theorem sWebNew_any (n : Int) (w : World) : Calls Tryz.prog 228 #[.int .i64 n] w fun e w' => e = .returned (.tuple #[.agg #[.int .i64 (wnM n), .slice none 0 0], .bool (wnB n)]) ∧ Below w.heap.size w w' := by
  by_cases h : 1 ≤ n ∧ n ≤ 12
  · have e1 : wnM n = n := by unfold wnM; rw [if_pos h]
    have e2 : wnB n = true := decide_eq_true h
    rw [e1, e2]
    have HI : Hid (∀ u, Calls Tryz.prog 81 #[.int .i64 n, .int .i64 1, .int .i64 12] u fun e w' => e = .returned (.bool true) ∧ w' = u) := fun u => by
      have := l01In_any n 1 12 u
      rw [decide_eq_true h] at this
      exact this
    clear e1 e2
    go_enter Tryz.func228, Tryz.ntmps228
    go_wp2_with (go_at_call 81; refine (HI.out _).mono ?_; rintro e w1 ⟨rfl, rfl⟩)
    exact bodyPost_ret (v := .tuple #[.agg #[.int .i64 n, .slice none 0 0], .bool true]) (by simp [results, Tryz.results228, go_sem]) rfl ⟨rfl, (Below.refl _ _).alloc (Nat.le_refl _) _⟩
  · have e1 : wnM n = 0 := by unfold wnM; rw [if_neg h]
    have e2 : wnB n = false := decide_eq_false h
    rw [e1, e2]
    have HI : Hid (∀ u, Calls Tryz.prog 81 #[.int .i64 n, .int .i64 1, .int .i64 12] u fun e w' => e = .returned (.bool false) ∧ w' = u) := fun u => by
      have := l01In_any n 1 12 u
      rw [decide_eq_false h] at this
      exact this
    clear e1 e2
    go_enter Tryz.func228, Tryz.ntmps228
    go_wp2_with (go_at_call 81; refine (HI.out _).mono ?_; rintro e w1 ⟨rfl, rfl⟩)
    exact bodyPost_ret (v := .tuple #[.agg #[.int .i64 0, .slice none 0 0], .bool false]) (by simp [results, Tryz.results228, go_sem]) rfl ⟨rfl, (Below.refl _ _).alloc (Nat.le_refl _) _⟩
theorem conn_nil {u v : Int} (h : Conn [] u v) : v = u := h (fun x => x = u) (fun e he => by cases he) rfl
theorem WOk_nil {n : Nat} (h1 : 1 ≤ n) (h12 : n ≤ 12) : WOk (n : Int) [] := by
  refine ⟨?_, (fun x hx => by cases hx), fun i hi => ?_⟩
  · unfold gB
    rw [decide_eq_true (show (1 : Int) ≤ (n : Int) ∧ (n : Int) ≤ 12 by omega)]
    rfl
  · rw [Int.toNat_natCast]
    have hE : ∀ e ∈ fE [] (i : Int), 0 ≤ e.1 ∧ e.1 < e.2 ∧ e.2 < (n : Int) := fun e he => by simp [fE] at he
    obtain ⟨ts, hts⟩ := (ft_iff hE h1 h12).2 (fun e he => by simp [fE] at he)
    have hA := ft_all hE h1 h12 hts
    refine ⟨ts, hts, fun t ht hl => ?_, (fun x hx => by cases hx)⟩
    exfalso
    have e0 : fE [] (i : Int) = [] := by simp [fE]
    rw [e0] at hA
    have hp := vsK_asc t 12
    have hq := hp
    have hll : 1 < (vsK t 12).length := hl
    have m0 : (vsK t 12)[0] ∈ vsL t := List.getElem_mem _
    have m1 : (vsK t 12)[1] ∈ vsL t := List.getElem_mem _
    have hlt := List.pairwise_iff_getElem.1 hq 0 1 (by omega) (by omega) (by omega)
    have t0 := ((vsL_mem t _).1 m0).2
    have t1 := ((vsL_mem t _).1 m1).2
    have := conn_nil ((hA.conn t ht _ t0 _).1 t1)
    omega
end Go.Proofs.YtkkplppcgnikoaaGreat
namespace Go.Proofs.YtkkplppcgnikoaaGreat
open Go.RowKit

/-- what WebAdd says -/
def WaS (nn : Nat) (ls : List Ld) (f : EdgeV) (nv : Int) (ob : Bool) : Prop := ob = (waO (nn : Int) ls f).isSome ∧ nv = if (waO (nn : Int) ls f).isSome then (nn : Int) else 0
def WtS (nn : Nat) (ls : List Ld) (f : EdgeV) (nv : Int) (ob : Bool) : Prop := ob = (wtO (nn : Int) ls f).isSome ∧ nv = if (wtO (nn : Int) ls f).isSome then (nn : Int) else 0
theorem wtO_some {nn : Nat} {ls : List Ld} {x : Ld} {y : Nat} (hw : WOk (nn : Int) ls) (hx : ls[y]? = some x) : ∃ L r, wtO (nn : Int) ls x.e = some (L, r) := by
  have hh : hasB (gE ls) x.e = true := decide_eq_true (by unfold gE; exact List.mem_map.2 ⟨x, List.mem_of_getElem? hx, rfl⟩)
  cases hf : ls.find? (fun z => decide (z.e = x.e)) with
  | none => exact absurd (decide_eq_true (rfl : x.e = x.e)) (List.find?_eq_none.1 hf x (List.mem_of_getElem? hx))
  | some z =>
    rw [wtO_yes hw hh hf]
    exact ⟨_, _, rfl⟩
/-- where the draw of a web stands -/
structure WAt (w : World) (G X : Nat) (a : Option Addr) (len cap nn : Nat) (ls : List Ld) (a' : Option Addr) (m c' : Nat) (u : World) : Prop where
  cur : Cur u G a len cap
  res : Box7 u w.heap.size 26 (.int .i64 0) (.slice none 0 0)
  box : Box7 u X 26 (.int .i64 (nn : Int)) (.slice a' m c')
  own : u.ownsRow (X + 1) 52 4 (.slice a' m c') m (lcells ls)
  grown : w.grownBy u (some G)
  low : G < w.heap.size
  high : w.heap.size < X
section
variable {w : World} {G X : Nat} {a : Option Addr} {len cap nn : Nat} {ls : List Ld} {a' : Option Addr} {m c' : Nat} {u v : World}
theorem WAt.code (h : WAt w G X a len cap nn ls a' m c' u) (hc : Code w G a len) : Code u G a len := hc.kept h.grown
theorem ownG {B e s n X : Nat} {x : Value} {xs : List Value} (h : u.ownsRow B e s x n xs) (hg : u.grownBy v (some X)) (hX : X < B) : v.ownsRow B e s x n xs :=
  World.ownsRow.kept h hg (.inr fun e => by have := (h.lt X e).1; omega)
theorem WAt.drawn (h : WAt w G X a len cap nn ls a' m c' u) (d : Drawn u v G a len cap) : WAt w G X a len cap nn ls a' m c' v :=
  ⟨d.cur, h.res.grown d.grown (by have := h.low; simp; omega), h.box.grown d.grown (by have := h.low; have := h.high; simp; omega), ownG h.own d.grown (by have := h.low; have := h.high; omega), grown_trans h.grown d.grown, h.low, h.high⟩
theorem WAt.up (h : WAt w G X a len cap nn ls a' m c' u) (hb : Below u.heap.size u v) : WAt w G X a len cap nn ls a' m c' v :=
  ⟨h.cur.up7 hb, h.res.up hb, h.box.up hb, own_up h.own hb, grown_up7 h.grown (hb.mono h.grown.size), h.low, h.high⟩
theorem WAt.alloc (h : WAt w G X a len cap nn ls a' m c' u) (o : Obj) : WAt w G X a len cap nn ls a' m c' (u.alloc o) := h.up ((Below.refl _ _).alloc (Nat.le_refl _) _)
theorem WAt.drew (h : WAt w G X a len cap nn ls a' m c' u) : WAt w G X a len cap nn ls a' m c' u.drew := h.up (Below.refl _ _).drew
theorem WAt.lss (h : WAt w G X a len cap nn ls a' m c' u) : Ls u u.heap.size a' m ls := Ls_of_own h.own
theorem WAt.len' (h : WAt w G X a len cap nn ls a' m c' u) : ls.length = m := h.lss.1
theorem WAt.turn (h : WAt w G X a len cap nn ls a' m c' u) {fs : List Ld} {a2 : Option Addr} {m2 c2 : Nat} (ho : u.ownsRow (X + 1) 52 4 (.slice a2 m2 c2) m2 (lcells fs)) :
    WAt w G X a len cap nn fs a2 m2 c2 ((u.setCell ⟨X, 0, none⟩ (.int .i64 (nn : Int))).setCell ⟨X, 1, none⟩ (.slice a2 m2 c2)) := by
  have hlo := h.low
  have hhi := h.high
  have hg : u.grownBy ((u.setCell ⟨X, 0, none⟩ (.int .i64 (nn : Int))).setCell ⟨X, 1, none⟩ (.slice a2 m2 c2)) (some X) := grown_trans (grown_set u X 0 _) (grown_set _ X 1 _)
  exact ⟨h.cur.grownX7 hg (by omega), h.res.grown hg (by simp; omega), h.box.set2 _ _, ownG ho hg (by omega), grown_up7 h.grown (((Below.refl w.heap.size u).setCell (p := ⟨X, 0, none⟩) (by show w.heap.size ≤ X; omega) _).setCell (p := ⟨X, 1, none⟩) (by show w.heap.size ≤ X; omega) _), hlo, hhi⟩
/-- a box that came later is filled -/
theorem WAt.set2 (h : WAt w G X a len cap nn ls a' m c' u) {b : Nat} (hb : X < b) (x y : Value) (hk : ∀ g, (Value.slice a' m c').ownBlock = some g → g ≠ b) : WAt w G X a len cap nn ls a' m c' ((u.setCell ⟨b, 0, none⟩ x).setCell ⟨b, 1, none⟩ y) := by
  have hlo := h.low
  have hhi := h.high
  have hg : u.grownBy ((u.setCell ⟨b, 0, none⟩ x).setCell ⟨b, 1, none⟩ y) (some b) := grown_trans (grown_set u b 0 _) (grown_set _ b 1 _)
  exact ⟨h.cur.grownX7 hg (by omega), h.res.grown hg (by simp; omega), h.box.grown hg (by simp; omega), World.ownsRow.kept h.own hg (.inr fun e => hk b e rfl), grown_up7 h.grown (((Below.refl w.heap.size u).setCell (p := ⟨b, 0, none⟩) (by show w.heap.size ≤ b; omega) _).setCell (p := ⟨b, 1, none⟩) (by show w.heap.size ≤ b; omega) _), hlo, hhi⟩
/-- a row of edges lies in no box of a web -/
theorem row_box {B n b : Nat} {x y0 y1 : Value} {xs : List Value} (h : u.ownsRow B 52 4 x n xs) (hb : Box7 u b 26 y0 y1) : ∀ g, x.ownBlock = some g → g ≠ b := fun g hg e => by
  subst e
  rcases h.2 with ⟨hv, _⟩ | ⟨g2, cap, cur, hv, _, hcur, _⟩
  · rw [hv] at hg
    cases hg
  · rw [hv] at hg
    simp [Value.ownBlock] at hg
    subst hg
    have hbx : u.heap[g2]? = some (.cells #[y0, y1] 26 (0, 0)) := hb
    rw [hbx] at hcur
    simp at hcur
theorem own_hi {B n b : Nat} {x y0 y1 p q : Value} {xs : List Value} (h : u.ownsRow B 52 4 x n xs) (_hb0 : X < b) (hb : Box7 u b 26 y0 y1) : ((u.setCell ⟨b, 0, none⟩ p).setCell ⟨b, 1, none⟩ q).ownsRow B 52 4 x n xs :=
  World.ownsRow.kept h (grown_trans (grown_set u b 0 _) (grown_set _ b 1 _)) (.inr fun e => row_box h hb b e rfl)
/-- boxes stand behind a call -/
def KeepG (G : Nat) (u v : World) : Prop := ∀ b t x y, b ≠ G → Box7 u b t x y → Box7 v b t x y
theorem KeepG.drawn (d : Drawn u v G a len cap) : KeepG G u v := fun _ _ _ _ hb h => h.grown d.grown (by simpa using hb)
theorem KeepG.up (hb : Below u.heap.size u v) : KeepG G u v := fun _ _ _ _ _ h => h.up hb
def KeepG4 (G : Nat) (u v : World) : Prop := ∀ b x, b ≠ G → Box4 u b x → Box4 v b x
theorem KeepG4.drawn (d : Drawn u v G a len cap) : KeepG4 G u v := fun b x hb h => by
  unfold Box4; rw [d.grown.block b h.lt (by simpa using hb)]; exact h
/-- a box of an edge that came later is filled -/
theorem WAt.set4 (h : WAt w G X a len cap nn ls a' m c' u) {b : Nat} (hb : X < b) (hno : ∀ g, (Value.slice a' m c').ownBlock = some g → g ≠ b) (x0 x1 x2 x3 : Value) : WAt w G X a len cap nn ls a' m c' ((((u.setCell ⟨b, 0, none⟩ x0).setCell ⟨b, 1, none⟩ x1).setCell ⟨b, 2, none⟩ x2).setCell ⟨b, 3, none⟩ x3) := by
  have hlo := h.low
  have hhi := h.high
  have hg : u.grownBy ((((u.setCell ⟨b, 0, none⟩ x0).setCell ⟨b, 1, none⟩ x1).setCell ⟨b, 2, none⟩ x2).setCell ⟨b, 3, none⟩ x3) (some b) := grown_trans (grown_trans (grown_trans (grown_set u b 0 _) (grown_set _ b 1 _)) (grown_set _ b 2 _)) (grown_set _ b 3 _)
  exact ⟨h.cur.grownX7 hg (by omega), h.res.grown hg (by simp; omega), h.box.grown hg (by simp; omega), World.ownsRow.kept h.own hg (.inr fun e => hno b e rfl), grown_up7 h.grown ((((((Below.refl w.heap.size u).setCell (p := ⟨b, 0, none⟩) (by show w.heap.size ≤ b; omega) _).setCell (p := ⟨b, 1, none⟩) (by show w.heap.size ≤ b; omega) _)).setCell (p := ⟨b, 2, none⟩) (by show w.heap.size ≤ b; omega) _).setCell (p := ⟨b, 3, none⟩) (by show w.heap.size ≤ b; omega) _), hlo, hhi⟩
theorem KeepG.nil (h : KeepG G u v) {b : Nat} (hb : b ≠ G) (hx : Box7 u b 26 (.int .i64 0) (.slice none 0 0)) : Box7 v b 26 (.int .i64 0) (.slice none 0 0) := h _ _ _ _ hb hx
end

set_option maxRecDepth 100000 in
set_option maxHeartbeats 16000000 in
theorem l08Web_any (nn : Nat) (hn2 : 2 ≤ nn) (hn12 : nn ≤ 12) (s : Nat) (hs : s ≤ 1000) (w : World) (G : Nat) (a : Option Addr) (len cap : Nat) (hl : len ≤ 1048576) (hcur : Cur w G a len cap) (hcode : Code w G a len) :
    Calls Tryz.prog 151 #[.pointer (some ⟨G, 0, none⟩), .int .i64 (nn : Int), .int .i64 (s : Int)] w fun x w' => ∃ (ls : List Ld) (a' : Option Addr) (m c' : Nat), Hid (WOk (nn : Int) ls) ∧ x = .returned (.agg #[.int .i64 (nn : Int), .slice a' m c']) ∧ w'.ownsRow w.heap.size 52 4 (.slice a' m c') m (lcells ls) ∧ Drawn w w' G a len cap := by
  have hb0 : Below w.heap.size w (w.alloc (.cells #[.int .i64 0, .slice none 0 0] 26)) := (Below.refl _ _).alloc (Nat.le_refl _) _
  have HCode := hideIt hcode
  have hG := hcur.lt7
  have HWn := hideIt (sWebNew_any (nn : Int) (w.alloc (.cells #[.int .i64 0, .slice none 0 0] 26)))
  have e1 : wnM (nn : Int) = (nn : Int) := by unfold wnM; rw [if_pos (by omega)]
  have e2 : wnB (nn : Int) = true := by unfold wnB; exact decide_eq_true (by omega)
  rw [e1, e2] at HWn
  have R0 := Box7.new w 26 (.int .i64 0) (.slice none 0 0) w.heap.size rfl
  have HC0 := hideIt (hcur.up7 hb0)
  have HGr : Hid (w.grownBy (w.alloc (.cells #[.int .i64 0, .slice none 0 0] 26)) (some G)) := grown_of_below hb0 _
  clear hcur hcode hb0 e1 e2
  go_enter Tryz.func151, Tryz.ntmps151
  go_wp2_with (go_at_call 228; refine HWn.out.mono ?_; rintro e w1 ⟨rfl, b1⟩; refine Hid.out ?_)
  refine (show ∀ {p : Prop}, p → Hid p from fun h => h) ?_
  have hz1 : w.heap.size < w1.heap.size := by have := b1.size; simp at this; omega
  obtain ⟨W2, hW2⟩ : ∃ W2, W2 = w1.alloc (.cells #[.int .i64 (nn : Int), .slice none 0 0] 26) := ⟨_, rfl⟩
  obtain ⟨X, hX⟩ : ∃ X, X = w1.heap.size := ⟨_, rfl⟩
  have HD0 : Hid (WAt w G X a len cap nn [] none 0 0 W2) := by
    have hu : Below w1.heap.size w1 W2 := by rw [hW2]; exact (Below.refl _ _).alloc (Nat.le_refl _) _
    rw [hX]
    exact ⟨(HC0.out.up7 b1).up7 hu, (R0.up b1).up hu, by rw [hW2]; exact Box7.new _ _ _ _ _ rfl, World.ownsRow_nil _ _ _ _, grown_up7 (grown_up7 HGr.out (b1.mono (by simp))) (hu.mono (by omega)), hG, hz1⟩
  have HR0 := hideIt (WOk_nil (n := nn) (by omega) hn12)
  have HOn : Hid (∀ (ls : List Ld) (a' : Option Addr) (m c' : Nat) u, WAt w G X a len cap nn ls a' m c' u → Calls Tryz.prog 64 #[.pointer (some ⟨G, 0, none⟩), .int .i64 3] u fun e v => ∃ b : Bool, e = .returned (.bool b) ∧ WAt w G X a len cap nn ls a' m c' v) := fun ls a' m c' u hu =>
    (l01Once_any 3 (by omega) (by omega) u G a len cap hl hu.cur (hu.code HCode.out)).mono fun e v ⟨b, he, hd⟩ => ⟨b, he, hu.drawn hd⟩
  clear HWn R0 HC0 HGr b1
  go_upto_region 2 with fail
  rw [← hW2, ← hX]
  clear hW2 hX hz1
  go_wp2
  go_loopw [9] (fun i wr => ∃ (k : Nat) (ls : List Ld) (a' : Option Addr) (m c' : Nat), k ≤ s ∧ i = .int .i64 (k : Int) ∧ Hid (WOk (nn : Int) ls) ∧ Hid (WAt w G X a len cap nn ls a' m c' wr)) (fun i _ => s - (intOf i).toNat)
  case atStart => exact ⟨0, [], none, 0, 0, by omega, rfl, HR0, HD0⟩
  case round =>
    obtain ⟨k, ls, a', m, c', hk, rfl, hR, hD⟩ := hrel
    clear HD0 HR0
    have hm66 : m ≤ 66 := by have h1 := (gB_chk hR.out.1).2.2; rw [gE_len] at h1; have := hD.out.len'; omega
    have hm16 : m ≤ 1048576 := by omega
    by_cases hks : k < s
    · have d1 : decide ((k : Int) < (s : Int)) = true := decide_eq_true (by omega)
      have q1 := hD.out.box.cell1
      by_cases hm4 : 4 < m
      · have d2 : decide ((4 : Int) < (m : Int)) = true := decide_eq_true (by omega)
        have HX := hideIt (HOn.out ls a' m c' wr hD.out)
        go_wp2_with (go_at_call 64; refine HX.out.mono ?_; rintro e w2 ⟨bb, rfl, D2⟩; refine Hid.out ?_)
        refine (show ∀ {p : Prop}, p → Hid p from fun h => h) ?_
        have HD2 := hideIt D2
        clear HX hD q1 D2
        cases bb with
        | true =>
          obtain ⟨bo, off, _, rfl, hbo, _, _⟩ := HD2.out.lss.at (k := 0) (by omega)
          have D0 := HD2.out
          have hzx := HD2.out.box.lt
          have hgx := HD2.out.low
          have hxx := HD2.out.high
          have hzd : w2.drew.heap.size = w2.heap.size := rfl
          have HBe : Hid (∀ u, WAt w G X a len cap nn ls (some ⟨bo, off, none⟩) m c' u → Calls Tryz.prog 65 #[.pointer (some ⟨G, 0, none⟩), .int .i64 (m : Int)] u fun e v => ∃ (y : Nat) (x : Ld), e = .returned (.int .i64 (y : Int)) ∧ (y : Int) < (m : Int) ∧ Hid (ls[y]? = some x) ∧ (v.cell? ⟨bo, off + y * 4, none⟩ = some (.int .i64 x.a) ∧ v.cell? ⟨bo, off + y * 4 + 1, none⟩ = some (.int .i64 x.b) ∧ v.cell? ⟨bo, off + y * 4 + 2, none⟩ = some (.int .i64 x.l) ∧ v.cell? ⟨bo, off + y * 4 + 3, none⟩ = some (.bool x.t)) ∧ bo < v.heap.size ∧ WAt w G X a len cap nn ls (some ⟨bo, off, none⟩) m c' v ∧ KeepG4 G u v) := fun u hu =>
            (l01Below_any (m : Int) (by omega) (by omega) u G a len cap hl hu.cur (hu.code HCode.out)).mono fun e v ⟨y, hy, he, hd⟩ => by
              have hv := hu.drawn hd
              obtain ⟨b, off', x, h1, h2, h3, h4⟩ := hv.lss.at (k := y) (by omega)
              cases h1
              exact ⟨y, x, he, hy, h3, ⟨h4.ca, h4.cb, h4.cl, h4.ct⟩, h2, hv, KeepG4.drawn hd⟩
          have HC : Hid (∀ u, WAt w G X a len cap nn ls (some ⟨bo, off, none⟩) m c' u → u.cell? ⟨X, 0, none⟩ = some (.int .i64 (nn : Int)) ∧ u.cell? ⟨X, 1, none⟩ = some (.slice (some ⟨bo, off, none⟩) m c')) := fun u hu => ⟨hu.box.cell0, hu.box.cell1⟩
          have hS0 := (HC.out _ D0).2
          have HTk : Hid (∀ u (f : EdgeV), WAt w G X a len cap nn ls (some ⟨bo, off, none⟩) m c' u → Calls Tryz.prog 27 #[.agg #[.int .i64 (nn : Int), .slice (some ⟨bo, off, none⟩) m c'], .agg #[.int .i64 f.1, .int .i64 f.2]] u fun e v => ∃ a5 m5 c5 nv d0 d1 fd ob, e = .returned (.tuple #[.agg #[.int .i64 nv, .slice a5 m5 c5], .agg #[.int .i64 d0, .int .i64 d1], .bool fd, .bool ob]) ∧ Hid (WtS nn ls f nv ob) ∧ Hid (v.ownsRow (X + 1) 52 4 (.slice a5 m5 c5) m5 (lcells (wtL (wtO (nn : Int) ls f)))) ∧ WAt w G X a len cap nn ls (some ⟨bo, off, none⟩) m c' v) := fun u f hu =>
            (sWebTake_any (nn : Int) ls f m (some ⟨bo, off, none⟩) c' hm16 u hu.lss).mono fun e v ⟨a5, m5, c5, he, ho, hb⟩ => ⟨a5, m5, c5, _, _, _, _, _, he, ⟨rfl, rfl⟩, own_mono ho (by have := hu.box.lt; omega), hu.up hb⟩
          go_upto_region 6 with fail
          clear HD2
          go_cut [10] (fun p wx => ∃ (b y : Nat) (x : Ld), p = .pointer (some ⟨b, 0, none⟩) ∧ Hid (ls[y]? = some x) ∧ WAt w G X a len cap nn ls (some ⟨bo, off, none⟩) m c' wx ∧ Box4 wx b x ∧ X < b)
          case first =>
            go_region_with
              ((go_at_call 65; refine (HBe.out _ (by first | exact D0 | exact D0.drew | exact (D0.alloc _) | exact (D0.alloc _).drew | exact (D0.drew.alloc _) | exact (D0.drew.alloc _).drew)).mono ?_; rintro e w3 ⟨y, x, rfl, hy, hyx, ⟨ca, cb, cl, ct⟩, hb3, D3, hk3⟩; have hS3 := (HC.out _ D3).2; have z3 := D3.box.lt; (first | have bx := hk3 _ _ (by omega) (Box4.new0 w2) | have bx := hk3 _ _ (by omega) (Box4.new0 w2.drew) | have bx := hk3 _ _ (by omega) (Box4.new0 w2).dr | have bx := hk3 _ _ (by omega) (Box4.new0 w2.drew).dr | skip); try (obtain ⟨bc0, bc1, bc2, bc3⟩ := bx.cells; have bl := bx.lt; have bz0 := bx.frozen 0; have bz1 := bx.frozen 1; have bz2 := bx.frozen 2; have bz3 := bx.frozen 3)))
            all_goals
              go_wp2_with fail
              go_meet
              first
              | exact ⟨_, y, x, rfl, hyx, D3.alloc _, Box4.new _ _ _ rfl, by omega⟩
              | exact ⟨_, y, x, rfl, hyx, D3.set4 (by omega) (fun g hg e => by have := (D0.own.lt g hg).2; omega) _ _ _ _, bx.set4 x, by omega⟩
          case rest =>
            obtain ⟨b, y, x, rfl, hyx, D5, bx, hXb⟩ := hcut
            obtain ⟨L, r, ho⟩ := wtO_some hR.out hyx.out
            have HR2 := hideIt (wtO_ok ho)
            have HX := hideIt (HTk.out _ (x.a, x.b) D5)
            obtain ⟨bc0, bc1, bc2, bc3⟩ := bx.cells
            have y0 := D5.box.cell0
            have y1 := D5.box.cell1
            have Ho := hideIt ho
            clear D0 HC hS0 HBe HTk D5 bx ho
            go_upto_region 7 with fail
            go_wp2_with (go_at_call 27; refine HX.out.mono ?_; rintro e w6 ⟨a5, m5, c5, nv, d0, e0, fd, ob, rfl, s5, o5, D6⟩; refine Hid.out ?_)
            refine (show ∀ {p : Prop}, p → Hid p from fun h => h) ?_
            have s51 := s5.out.1
            have s52 := s5.out.2
            have o6 := o5.out
            rw [show wtO (nn : Int) ls (x.a, x.b) = some (L, r) from Ho.out] at s51 s52 o6
            obtain rfl : ob = true := s51
            obtain rfl : nv = (nn : Int) := s52
            have z0 := D6.box.cell0
            have z1 := D6.box.cell1
            have z2 := D6.box.frozen 0
            have z3 := D6.box.frozen 1
            have HT := hideIt (D6.turn o6)
            clear D6 o6 s5 o5 HX bc0 bc1 bc2 bc3 y0 y1 Ho
            go_wp2
            exact ⟨⟨k + 1, L, a5, m5, c5, by omega, by go_num, HR2, HT⟩, by simp [intOf]; omega⟩
        | false =>
          go_upto_region 8 with fail
          have D0 := HD2.out
          have HC : Hid (∀ u, WAt w G X a len cap nn ls a' m c' u → u.cell? ⟨X, 0, none⟩ = some (.int .i64 (nn : Int)) ∧ u.cell? ⟨X, 1, none⟩ = some (.slice a' m c')) := fun u hu => ⟨hu.box.cell0, hu.box.cell1⟩
          have hS0 := HC.out _ D0
          have hzx := HD2.out.box.lt
          have hgx := HD2.out.low
          have hxx := HD2.out.high
          have hzd : w2.drew.heap.size = w2.heap.size := rfl
          have HEd : Hid (∀ u, WAt w G X a len cap nn ls a' m c' u → Calls Tryz.prog 66 #[.pointer (some ⟨G, 0, none⟩), .int .i64 (nn : Int)] u fun x v => ∃ f : EdgeV, x = .returned (.agg #[.int .i64 f.1, .int .i64 f.2]) ∧ WAt w G X a len cap nn ls a' m c' v ∧ KeepG G u v) := fun u hu =>
            (l05Edge_any nn hn2 hn12 u G a len cap hl hu.cur (hu.code HCode.out)).mono fun x v ⟨f, _, he, hd⟩ => ⟨f, he, hu.drawn hd, KeepG.drawn hd⟩
          have HAd : Hid (∀ u (f : EdgeV), WAt w G X a len cap nn ls a' m c' u → Calls Tryz.prog 97 #[.agg #[.int .i64 (nn : Int), .slice a' m c'], .agg #[.int .i64 f.1, .int .i64 f.2]] u fun e v => ∃ a5 m5 c5 nv ob, e = .returned (.tuple #[.agg #[.int .i64 nv, .slice a5 m5 c5], .bool ob]) ∧ Hid (WaS nn ls f nv ob ∧ v.ownsRow (X + 1) 52 4 (.slice a5 m5 c5) m5 (lcells ((waO (nn : Int) ls f).getD []))) ∧ WAt w G X a len cap nn ls a' m c' v ∧ KeepG G u v) := fun u f hu =>
            (sWebAdd_any (nn : Int) ls f m a' c' hm16 u hu.lss).mono fun e v ⟨a5, m5, c5, he, ho, hb⟩ => ⟨a5, m5, c5, _, _, he, ⟨⟨rfl, rfl⟩, own_mono ho (by have := hu.box.lt; omega)⟩, hu.up hb, KeepG.up hb⟩
          clear HD2
          go_cut [11, 12] (fun p ok wx => ∃ b f a5 m5 c5 nv ob, p = .pointer (some ⟨b, 0, none⟩) ∧ ok = .bool ob ∧ WAt w G X a len cap nn ls a' m c' wx ∧ Box7 wx b 26 (.int .i64 nv) (.slice a5 m5 c5) ∧ Hid (WaS nn ls f nv ob) ∧ Hid (wx.ownsRow (X + 1) 52 4 (.slice a5 m5 c5) m5 (lcells ((waO (nn : Int) ls f).getD []))) ∧ X < b)
          case first =>
            go_region_held3 (fun u => u.cell? ⟨X, 0, none⟩ = some (.int .i64 (nn : Int)) ∧ u.cell? ⟨X, 1, none⟩ = some (.slice a' m c'))
              (first | assumption | with_reducible exact HC.out _ D0 | with_reducible exact HC.out _ D0.drew | with_reducible exact HC.out _ (D0.alloc _) | with_reducible exact HC.out _ (D0.alloc _).drew | with_reducible exact HC.out _ (D0.drew.alloc _) | with_reducible exact HC.out _ (D0.drew.alloc _).drew | with_reducible exact HC.out _ D3 | with_reducible exact HC.out _ D3.drew | with_reducible exact HC.out _ (D3.alloc _) | with_reducible exact HC.out _ (D3.alloc _).drew | with_reducible exact HC.out _ (D3.drew.alloc _) | with_reducible exact HC.out _ (D3.drew.alloc _).drew | with_reducible exact HC.out _ D4 | with_reducible exact HC.out _ D4.drew | with_reducible exact HC.out _ (D4.alloc _) | with_reducible exact HC.out _ (D4.alloc _).drew | with_reducible exact HC.out _ (D4.drew.alloc _) | with_reducible exact HC.out _ (D4.drew.alloc _).drew | exact ⟨by rw [set_other (by omega), set_other (by omega)]; exact hS4.1, by rw [set_other (by omega), set_other (by omega)]; exact hS4.2⟩)
              (first
              | (go_at_call 66; refine (HEd.out _ (by first | exact D0 | exact D0.drew | exact (D0.alloc _) | exact (D0.alloc _).drew | exact (D0.drew.alloc _) | exact (D0.drew.alloc _).drew)).mono ?_; rintro e w3 ⟨f, rfl, D3, hk3⟩; have hS3 := HC.out _ D3; have z3 := D3.box.lt; (first | have bx := hk3.nil (by omega) (Box7.z w2 _ rfl) | have bx := hk3.nil (by omega) (Box7.z w2.drew _ rfl) | have bx := hk3.nil (by omega) (Box7.z w2 _ rfl).dr | have bx := hk3.nil (by omega) (Box7.z w2.drew _ rfl).dr | skip))
              | (go_at_call 97; refine (HAd.out _ f (by first | exact D3 | exact D3.drew | exact (D3.alloc _) | exact (D3.alloc _).drew | exact (D3.drew.alloc _) | exact (D3.drew.alloc _).drew)).mono ?_; rintro e w4 ⟨a5, m5, c5, nv, ob, rfl, o5, D4, hk4⟩; have hS4 := HC.out _ D4; have z4 := D4.box.lt; (first | have bx := hk4.nil (by omega) bx | have bx := hk4.nil (by omega) bx.dr | have bx := hk4.nil (by omega) (Box7.z w3 _ rfl) | have bx := hk4.nil (by omega) (Box7.z w3.drew _ rfl) | have bx := hk4.nil (by omega) (Box7.z w3 _ rfl).dr | have bx := hk4.nil (by omega) (Box7.z w3.drew _ rfl).dr | skip); try (have bc0 := bx.cell0; have bc1 := bx.cell1; have bz0 := bx.frozen 0; have bz1 := bx.frozen 1; have bl := bx.lt)))
            all_goals
              go_wp2_with fail
              go_meet
              first
              | exact ⟨_, f, a5, m5, c5, nv, ob, rfl, rfl, D4.alloc _, Box7.new _ _ _ _ _ rfl, o5.out.1, own_up o5.out.2 ((Below.refl _ _).alloc (Nat.le_refl _) _), by omega⟩
              | exact ⟨_, f, a5, m5, c5, nv, ob, rfl, rfl, D4.set2 (by omega) _ _ (row_box D4.own bx), bx.set2 _ _, o5.out.1, own_hi o5.out.2 (by omega) bx, by omega⟩
          case rest =>
            obtain ⟨b, f, a5, m5, c5, nv, ob, rfl, rfl, D5, bx, s5, o5, hXb⟩ := hcut
            obtain ⟨s51, s52⟩ := s5.out
            clear s5
            have HD5 := hideIt D5
            have Hbx := hideIt bx
            clear D0 HC hS0 HEd HAd
            cases ho : waO (nn : Int) ls f with
            | none =>
              rw [ho] at o5 s51 s52
              obtain rfl : ob = false := s51
              clear Hbx s52
              go_wp2
              exact ⟨⟨k + 1, ls, a', m, c', by omega, by go_num, hR, HD5⟩, by simp [intOf]; omega⟩
            | some L =>
              rw [ho] at o5 s51 s52
              obtain rfl : ob = true := s51
              obtain rfl : nv = (nn : Int) := s52
              simp only [Option.getD_some] at o5
              have HR2 := hideIt (waO_ok ho)
              have c0 := Hbx.out.cell0
              have c1 := Hbx.out.cell1
              have y0 := HD5.out.box.cell0
              have y1 := HD5.out.box.cell1
              have y2 := HD5.out.box.frozen 0
              have y3 := HD5.out.box.frozen 1
              have HT := hideIt (HD5.out.turn o5.out)
              clear D5 bx o5 ho HD5 Hbx
              go_wp2
              exact ⟨⟨k + 1, L, a5, m5, c5, by omega, by go_num, HR2, HT⟩, by simp [intOf]; omega⟩
      · have d2 : decide ((4 : Int) < (m : Int)) = false := decide_eq_false (by omega)
        have HD2 := hD
        go_upto_region 8 with fail
        have D0 := HD2.out
        have HC : Hid (∀ u, WAt w G X a len cap nn ls a' m c' u → u.cell? ⟨X, 0, none⟩ = some (.int .i64 (nn : Int)) ∧ u.cell? ⟨X, 1, none⟩ = some (.slice a' m c')) := fun u hu => ⟨hu.box.cell0, hu.box.cell1⟩
        have hS0 := HC.out _ D0
        have hzx := HD2.out.box.lt
        have hgx := HD2.out.low
        have hxx := HD2.out.high
        have hzd : wr.drew.heap.size = wr.heap.size := rfl
        have HEd : Hid (∀ u, WAt w G X a len cap nn ls a' m c' u → Calls Tryz.prog 66 #[.pointer (some ⟨G, 0, none⟩), .int .i64 (nn : Int)] u fun x v => ∃ f : EdgeV, x = .returned (.agg #[.int .i64 f.1, .int .i64 f.2]) ∧ WAt w G X a len cap nn ls a' m c' v ∧ KeepG G u v) := fun u hu =>
          (l05Edge_any nn hn2 hn12 u G a len cap hl hu.cur (hu.code HCode.out)).mono fun x v ⟨f, _, he, hd⟩ => ⟨f, he, hu.drawn hd, KeepG.drawn hd⟩
        have HAd : Hid (∀ u (f : EdgeV), WAt w G X a len cap nn ls a' m c' u → Calls Tryz.prog 97 #[.agg #[.int .i64 (nn : Int), .slice a' m c'], .agg #[.int .i64 f.1, .int .i64 f.2]] u fun e v => ∃ a5 m5 c5 nv ob, e = .returned (.tuple #[.agg #[.int .i64 nv, .slice a5 m5 c5], .bool ob]) ∧ Hid (WaS nn ls f nv ob ∧ v.ownsRow (X + 1) 52 4 (.slice a5 m5 c5) m5 (lcells ((waO (nn : Int) ls f).getD []))) ∧ WAt w G X a len cap nn ls a' m c' v ∧ KeepG G u v) := fun u f hu =>
          (sWebAdd_any (nn : Int) ls f m a' c' hm16 u hu.lss).mono fun e v ⟨a5, m5, c5, he, ho, hb⟩ => ⟨a5, m5, c5, _, _, he, ⟨⟨rfl, rfl⟩, own_mono ho (by have := hu.box.lt; omega)⟩, hu.up hb, KeepG.up hb⟩
        clear HD2
        go_cut [11, 12] (fun p ok wx => ∃ b f a5 m5 c5 nv ob, p = .pointer (some ⟨b, 0, none⟩) ∧ ok = .bool ob ∧ WAt w G X a len cap nn ls a' m c' wx ∧ Box7 wx b 26 (.int .i64 nv) (.slice a5 m5 c5) ∧ Hid (WaS nn ls f nv ob) ∧ Hid (wx.ownsRow (X + 1) 52 4 (.slice a5 m5 c5) m5 (lcells ((waO (nn : Int) ls f).getD []))) ∧ X < b)
        case first =>
          go_region_held3 (fun u => u.cell? ⟨X, 0, none⟩ = some (.int .i64 (nn : Int)) ∧ u.cell? ⟨X, 1, none⟩ = some (.slice a' m c'))
            (first | assumption | with_reducible exact HC.out _ D0 | with_reducible exact HC.out _ D0.drew | with_reducible exact HC.out _ (D0.alloc _) | with_reducible exact HC.out _ (D0.alloc _).drew | with_reducible exact HC.out _ (D0.drew.alloc _) | with_reducible exact HC.out _ (D0.drew.alloc _).drew | with_reducible exact HC.out _ D3 | with_reducible exact HC.out _ D3.drew | with_reducible exact HC.out _ (D3.alloc _) | with_reducible exact HC.out _ (D3.alloc _).drew | with_reducible exact HC.out _ (D3.drew.alloc _) | with_reducible exact HC.out _ (D3.drew.alloc _).drew | with_reducible exact HC.out _ D4 | with_reducible exact HC.out _ D4.drew | with_reducible exact HC.out _ (D4.alloc _) | with_reducible exact HC.out _ (D4.alloc _).drew | with_reducible exact HC.out _ (D4.drew.alloc _) | with_reducible exact HC.out _ (D4.drew.alloc _).drew | exact ⟨by rw [set_other (by omega), set_other (by omega)]; exact hS4.1, by rw [set_other (by omega), set_other (by omega)]; exact hS4.2⟩)
            (first
            | (go_at_call 66; refine (HEd.out _ (by first | exact D0 | exact D0.drew | exact (D0.alloc _) | exact (D0.alloc _).drew | exact (D0.drew.alloc _) | exact (D0.drew.alloc _).drew)).mono ?_; rintro e w3 ⟨f, rfl, D3, hk3⟩; have hS3 := HC.out _ D3; have z3 := D3.box.lt; (first | have bx := hk3.nil (by omega) (Box7.z wr _ rfl) | have bx := hk3.nil (by omega) (Box7.z wr.drew _ rfl) | have bx := hk3.nil (by omega) (Box7.z wr _ rfl).dr | have bx := hk3.nil (by omega) (Box7.z wr.drew _ rfl).dr | skip))
            | (go_at_call 97; refine (HAd.out _ f (by first | exact D3 | exact D3.drew | exact (D3.alloc _) | exact (D3.alloc _).drew | exact (D3.drew.alloc _) | exact (D3.drew.alloc _).drew)).mono ?_; rintro e w4 ⟨a5, m5, c5, nv, ob, rfl, o5, D4, hk4⟩; have hS4 := HC.out _ D4; have z4 := D4.box.lt; (first | have bx := hk4.nil (by omega) bx | have bx := hk4.nil (by omega) bx.dr | have bx := hk4.nil (by omega) (Box7.z w3 _ rfl) | have bx := hk4.nil (by omega) (Box7.z w3.drew _ rfl) | have bx := hk4.nil (by omega) (Box7.z w3 _ rfl).dr | have bx := hk4.nil (by omega) (Box7.z w3.drew _ rfl).dr | skip); try (have bc0 := bx.cell0; have bc1 := bx.cell1; have bz0 := bx.frozen 0; have bz1 := bx.frozen 1; have bl := bx.lt)))
          all_goals
            go_wp2_with fail
            go_meet
            first
            | exact ⟨_, f, a5, m5, c5, nv, ob, rfl, rfl, D4.alloc _, Box7.new _ _ _ _ _ rfl, o5.out.1, own_up o5.out.2 ((Below.refl _ _).alloc (Nat.le_refl _) _), by omega⟩
            | exact ⟨_, f, a5, m5, c5, nv, ob, rfl, rfl, D4.set2 (by omega) _ _ (row_box D4.own bx), bx.set2 _ _, o5.out.1, own_hi o5.out.2 (by omega) bx, by omega⟩
        case rest =>
          obtain ⟨b, f, a5, m5, c5, nv, ob, rfl, rfl, D5, bx, s5, o5, hXb⟩ := hcut
          obtain ⟨s51, s52⟩ := s5.out
          clear s5
          have HD5 := hideIt D5
          have Hbx := hideIt bx
          clear D0 HC hS0 HEd HAd
          cases ho : waO (nn : Int) ls f with
          | none =>
            rw [ho] at o5 s51 s52
            obtain rfl : ob = false := s51
            clear Hbx s52
            go_wp2
            exact ⟨⟨k + 1, ls, a', m, c', by omega, by go_num, hR, HD5⟩, by simp [intOf]; omega⟩
          | some L =>
            rw [ho] at o5 s51 s52
            obtain rfl : ob = true := s51
            obtain rfl : nv = (nn : Int) := s52
            simp only [Option.getD_some] at o5
            have HR2 := hideIt (waO_ok ho)
            have c0 := Hbx.out.cell0
            have c1 := Hbx.out.cell1
            have y0 := HD5.out.box.cell0
            have y1 := HD5.out.box.cell1
            have y2 := HD5.out.box.frozen 0
            have y3 := HD5.out.box.frozen 1
            have HT := hideIt (HD5.out.turn o5.out)
            clear D5 bx o5 ho HD5 Hbx
            go_wp2
            exact ⟨⟨k + 1, L, a5, m5, c5, by omega, by go_num, HR2, HT⟩, by simp [intOf]; omega⟩
    · obtain rfl : k = s := by omega
      have d1 : decide ((k : Int) < (k : Int)) = false := decide_eq_false (by omega)
      have r0 := hD.out.box.cell0
      have r1 := hD.out.box.cell1
      have s0 := hD.out.res.cell0
      have s1 := hD.out.res.cell1
      have t0 := hD.out.res.frozen 0
      have t1 := hD.out.res.frozen 1
      have hX := hD.out.high
      have hbw : Below w.heap.size wr ((wr.setCell ⟨w.heap.size, 0, none⟩ (.int .i64 (nn : Int))).setCell ⟨w.heap.size, 1, none⟩ (.slice a' m c')) := ((Below.refl w.heap.size wr).setCell (p := ⟨w.heap.size, 0, none⟩) (Nat.le_refl _) _).setCell (p := ⟨w.heap.size, 1, none⟩) (Nat.le_refl _) _
      have hgs := grown_trans (grown_set wr w.heap.size 0 (.int .i64 (nn : Int))) (grown_set _ w.heap.size 1 (.slice a' m c'))
      have hgw := grown_up7 hD.out.grown hbw
      have HF : Hid (((wr.setCell ⟨w.heap.size, 0, none⟩ (.int .i64 (nn : Int))).setCell ⟨w.heap.size, 1, none⟩ (.slice a' m c')).ownsRow w.heap.size 52 4 (.slice a' m c') m (lcells ls) ∧ Drawn w ((wr.setCell ⟨w.heap.size, 0, none⟩ (.int .i64 (nn : Int))).setCell ⟨w.heap.size, 1, none⟩ (.slice a' m c')) G a len cap) :=
        ⟨own_mono (ownG hD.out.own hgs (by omega)) (show w.heap.size ≤ X + 1 by omega), hD.out.cur.grownX7 hgs (by omega), HCode.out.kept hgw, hgw⟩
      clear hD hbw hgs hgw HOn
      go_wp2
      exact bodyPost_ret (v := .agg #[.int .i64 (nn : Int), .slice a' m c']) (by simp [results, Tryz.results151, go_sem, s0, s1]) rfl ⟨ls, a', m, c', hR, rfl, HF.out.1, HF.out.2⟩
end Go.Proofs.YtkkplppcgnikoaaGreat
namespace Go.Proofs.YtkkplppcgnikoaaGreat
open Go.RowKit

set_option maxRecDepth 100000 in
theorem l08Size_any (w : World) (a : Option Addr) (len cap : Nat) (hl : len ≤ 1048576) :
    Calls Tryz.prog 152 #[.slice a len cap] w fun e w' => ∃ s : Nat, (12 ≤ s ∧ s ≤ 60) ∧ e = .returned (.int .i64 (s : Int)) ∧ w' = w := by
  by_cases h6 : 60 < 12 + len / 4
  · have d0 : decide ((60 : Int) < 12 + (len : Int) / 4) = true := decide_eq_true (by omega)
    go_enter Tryz.func152, Tryz.ntmps152
    go_wp2
    go_ret
    exact ⟨60, by omega, rfl, rfl⟩
  · have d0 : decide ((60 : Int) < 12 + (len : Int) / 4) = false := decide_eq_false (by omega)
    go_enter Tryz.func152, Tryz.ntmps152
    go_wp2
    go_ret
    exact ⟨12 + len / 4, by omega, by go_num, rfl⟩

/-- a drawn web -/
def RW (w w' : World) (nn : Nat) (ls : List Ld) (a' : Option Addr) (m c' : Nat) : Prop := (2 ≤ nn ∧ nn ≤ 12) ∧ WOk (nn : Int) ls ∧ w'.ownsRow w.heap.size 52 4 (.slice a' m c') m (lcells ls)

set_option maxRecDepth 100000 in
set_option maxHeartbeats 2000000 in
theorem l08Drawn_any (w : World) (G : Nat) (a : Option Addr) (len cap : Nat) (hl : len ≤ 1048576) (hcur : Cur w G a len cap) (hcode : Code w G a len) :
    Calls Tryz.prog 63 #[.pointer (some ⟨G, 0, none⟩), .slice a len cap] w fun x w' => ∃ (nn : Nat) (ls : List Ld) (a' : Option Addr) (m c' : Nat), Hid (RW w w' nn ls a' m c') ∧ x = .returned (.agg #[.int .i64 (nn : Int), .slice a' m c']) ∧ Drawn w w' G a len cap := by
  have hG := hcur.lt7
  obtain ⟨W1, hW1⟩ : ∃ W1, W1 = w.alloc (.cells #[.int .i64 0, .slice none 0 0] 26) := ⟨_, rfl⟩
  have hb0 : Below w.heap.size w W1 := by rw [hW1]; exact (Below.refl _ _).alloc (Nat.le_refl _) _
  have R0 : Box7 W1 w.heap.size 26 (.int .i64 0) (.slice none 0 0) := by rw [hW1]; exact Box7.new w 26 (.int .i64 0) (.slice none 0 0) w.heap.size rfl
  have HB1 := hideIt (l01Below_any 11 (by omega) (by omega) W1 G a len cap hl (hcur.up7 hb0) (hcode.up7 hb0))
  have Hb0 := hideIt hb0
  have HR0 := hideIt R0
  have Hcd := hideIt hcode
  clear hcur hcode hb0 R0
  go_enter Tryz.func63, Tryz.ntmps63
  go_upto_region 1 with fail
  rw [← hW1]
  clear hW1
  go_wp2_with (go_at_call 65; refine HB1.out.mono ?_; rintro e w1 ⟨y, hy, rfl, d1⟩; refine Hid.out ?_)
  refine (show ∀ {p : Prop}, p → Hid p from fun h => h) ?_
  have hw : IntKind.i64.wrap (2 + (y : Int)) = ((2 + y : Nat) : Int) := by rw [IntKind.wrap_i64]; omega
  have Hd1 := hideIt d1
  have HS := hideIt (l08Size_any w1 a len cap hl)
  clear d1 HB1
  go_wp2_with (go_at_call 152; refine HS.out.mono ?_; rintro e w2 ⟨s, hs, rfl, hw2⟩; have hw3 := hw2.symm; subst hw3; clear hw2; refine Hid.out ?_)
  refine (show ∀ {p : Prop}, p → Hid p from fun h => h) ?_
  have HB2 := hideIt (l01Below_any (s : Int) (by omega) (by omega) w1 G a len cap hl Hd1.out.cur Hd1.out.code)
  clear HS
  go_wp2_with (go_at_call 65; refine HB2.out.mono ?_; rintro e w3 ⟨z, hz, rfl, d3⟩; refine Hid.out ?_)
  refine (show ∀ {p : Prop}, p → Hid p from fun h => h) ?_
  have Hd3 := hideIt (Hd1.out.trans d3)
  have HW := hideIt (l08Web_any (2 + y) (by omega) (by omega) z (by omega) w3 G a len cap hl Hd3.out.cur Hd3.out.code)
  have ey : ((2 + y : Nat) : Int) = 2 + (y : Int) := by omega
  rw [ey] at HW
  clear HB2 d3 Hd1 hw
  go_wp2_with (go_at_call 151; refine HW.out.mono ?_; rintro e w4 ⟨ls, a', m, c', hR, rfl, o4, d4⟩; refine Hid.out ?_)
  refine (show ∀ {p : Prop}, p → Hid p from fun h => h) ?_
  have s1 : w.heap.size < W1.heap.size := HR0.out.lt
  have s3 := Hd3.out.grown.size
  have D4 := Hd3.out.trans d4
  have R4 := HR0.out.grown D4.grown (by simp; omega)
  have r0 := R4.cell0
  have r1 := R4.cell1
  have f0 := R4.frozen 0
  have f1 := R4.frozen 1
  have hgs := grown_trans (grown_set w4 w.heap.size 0 (.int .i64 (2 + (y : Int)))) (grown_set _ w.heap.size 1 (.slice a' m c'))
  have hbw : Below w.heap.size w4 ((w4.setCell ⟨w.heap.size, 0, none⟩ (.int .i64 (2 + (y : Int)))).setCell ⟨w.heap.size, 1, none⟩ (.slice a' m c')) := ((Below.refl w.heap.size w4).setCell (p := ⟨w.heap.size, 0, none⟩) (Nat.le_refl _) _).setCell (p := ⟨w.heap.size, 1, none⟩) (Nat.le_refl _) _
  have hgw : w.grownBy ((w4.setCell ⟨w.heap.size, 0, none⟩ (.int .i64 (2 + (y : Int)))).setCell ⟨w.heap.size, 1, none⟩ (.slice a' m c')) (some G) := grown_up7 (grown_trans (grown_of_below Hb0.out _) D4.grown) hbw
  have HF : Hid (RW w ((w4.setCell ⟨w.heap.size, 0, none⟩ (.int .i64 (2 + (y : Int)))).setCell ⟨w.heap.size, 1, none⟩ (.slice a' m c')) (2 + y) ls a' m c' ∧ Drawn w ((w4.setCell ⟨w.heap.size, 0, none⟩ (.int .i64 (2 + (y : Int)))).setCell ⟨w.heap.size, 1, none⟩ (.slice a' m c')) G a len cap) :=
    ⟨⟨by omega, by have := hR.out; rw [← ey] at this; exact this, own_mono (ownG o4 hgs (by omega)) (by omega)⟩, D4.cur.grownX7 hgs (by omega), Hcd.out.kept hgw, hgw⟩
  clear R4 D4 d4 o4 hgs hbw hgw HW Hd3 HR0 Hb0
  go_wp2
  exact bodyPost_ret (v := .agg #[.int .i64 (2 + (y : Int)), .slice a' m c']) (by simp [results, Tryz.results63, go_sem, r0, r1]) rfl ⟨2 + y, ls, a', m, c', HF.out.1, by rw [ey], HF.out.2⟩
end Go.Proofs.YtkkplppcgnikoaaGreat
namespace Go.Proofs.YtkkplppcgnikoaaGreat
open Go.RowKit

theorem Code.re {w v : World} {G : Nat} {a : Option Addr} {len : Nat} (h : Code w w.heap.size a len) (hb : Below w.heap.size w v) (hG : w.heap.size ≤ G) : Code v G a len := by
  rcases h with h | ⟨b, off, ha, hbl, _, hc⟩
  · exact .inl h
  · exact .inr ⟨b, off, ha, by have := hb.size; omega, by omega, fun j hj => by obtain ⟨z, hz, hx⟩ := hc j hj; exact ⟨z, hz, by rw [hb.cell (p := ⟨b, off + j, none⟩) hbl]; exact hx⟩⟩
/-- where the draw stands -/
structure RAt (w : World) (X : Nat) (a : Option Addr) (len cap nn : Nat) (ls : List Ld) (a' : Option Addr) (m c' : Nat) (u : World) : Prop where
  cur : Cur u (w.heap.size + 1 + 1) a len cap
  r0 : Box7 u w.heap.size 26 (.int .i64 0) (.slice none 0 0)
  r1 : Box7 u (w.heap.size + 1) 28 (.int .i64 0) (.int .i64 0)
  box : Box7 u X 26 (.int .i64 (nn : Int)) (.slice a' m c')
  own : u.ownsRow (w.heap.size + 3) 52 4 (.slice a' m c') m (lcells ls)
  below : Below w.heap.size w u
  high : w.heap.size + 2 < X
section
variable {w : World} {X : Nat} {a : Option Addr} {len cap nn : Nat} {ls : List Ld} {a' : Option Addr} {m c' : Nat} {u v : World}
theorem RAt.code (h : RAt w X a len cap nn ls a' m c' u) (hc : Code w w.heap.size a len) : Code u (w.heap.size + 1 + 1) a len := hc.re h.below (by omega)
theorem RAt.drawn (h : RAt w X a len cap nn ls a' m c' u) (d : Drawn u v (w.heap.size + 1 + 1) a len cap) : RAt w X a len cap nn ls a' m c' v :=
  have := h.high
  ⟨d.cur, h.r0.grown d.grown (by simp; omega), h.r1.grown d.grown (by simp), h.box.grown d.grown (by simp; omega), ownG h.own d.grown (by omega), h.below.trans ((Below.refl w.heap.size u).grown d.grown h.below.size (fun j e => by cases e; omega)), h.high⟩
theorem RAt.up (h : RAt w X a len cap nn ls a' m c' u) (hb : Below u.heap.size u v) : RAt w X a len cap nn ls a' m c' v :=
  ⟨h.cur.up7 hb, h.r0.up hb, h.r1.up hb, h.box.up hb, own_up h.own hb, h.below.trans (hb.mono h.below.size), h.high⟩
theorem RAt.alloc (h : RAt w X a len cap nn ls a' m c' u) (o : Obj) : RAt w X a len cap nn ls a' m c' (u.alloc o) := h.up ((Below.refl _ _).alloc (Nat.le_refl _) _)
theorem RAt.drew (h : RAt w X a len cap nn ls a' m c' u) : RAt w X a len cap nn ls a' m c' u.drew := h.up (Below.refl _ _).drew
theorem RAt.lss (h : RAt w X a len cap nn ls a' m c' u) : Ls u u.heap.size a' m ls := Ls_of_own h.own
theorem RAt.set4 (h : RAt w X a len cap nn ls a' m c' u) {b : Nat} (hb : X < b) (hno : ∀ g, (Value.slice a' m c').ownBlock = some g → g ≠ b) (x0 x1 x2 x3 : Value) : RAt w X a len cap nn ls a' m c' ((((u.setCell ⟨b, 0, none⟩ x0).setCell ⟨b, 1, none⟩ x1).setCell ⟨b, 2, none⟩ x2).setCell ⟨b, 3, none⟩ x3) := by
  have hhi := h.high
  have hg : u.grownBy ((((u.setCell ⟨b, 0, none⟩ x0).setCell ⟨b, 1, none⟩ x1).setCell ⟨b, 2, none⟩ x2).setCell ⟨b, 3, none⟩ x3) (some b) := grown_trans (grown_trans (grown_trans (grown_set u b 0 _) (grown_set _ b 1 _)) (grown_set _ b 2 _)) (grown_set _ b 3 _)
  exact ⟨h.cur.grownX7 hg (by omega), h.r0.grown hg (by simp; omega), h.r1.grown hg (by simp; omega), h.box.grown hg (by simp; omega), World.ownsRow.kept h.own hg (.inr fun e => hno b e rfl), h.below.trans ((((((Below.refl w.heap.size u).setCell (p := ⟨b, 0, none⟩) (by show w.heap.size ≤ b; omega) _).setCell (p := ⟨b, 1, none⟩) (by show w.heap.size ≤ b; omega) _)).setCell (p := ⟨b, 2, none⟩) (by show w.heap.size ≤ b; omega) _).setCell (p := ⟨b, 3, none⟩) (by show w.heap.size ≤ b; omega) _), hhi⟩
theorem RAt.fin (h : RAt w X a len cap nn ls a' m c' u) (e : EdgeV) : ((((u.setCell ⟨w.heap.size, 0, none⟩ (.int .i64 (nn : Int))).setCell ⟨w.heap.size, 1, none⟩ (.slice a' m c')).setCell ⟨w.heap.size + 1, 0, none⟩ (.int .i64 e.1)).setCell ⟨w.heap.size + 1, 1, none⟩ (.int .i64 e.2)).ownsRow w.heap.size 52 4 (.slice a' m c') m (lcells ls) ∧ Below w.heap.size w ((((u.setCell ⟨w.heap.size, 0, none⟩ (.int .i64 (nn : Int))).setCell ⟨w.heap.size, 1, none⟩ (.slice a' m c')).setCell ⟨w.heap.size + 1, 0, none⟩ (.int .i64 e.1)).setCell ⟨w.heap.size + 1, 1, none⟩ (.int .i64 e.2)) :=
  ⟨own_mono (ownG (ownG (ownG (ownG h.own (grown_set _ _ _ _) (by omega)) (grown_set _ _ _ _) (by omega)) (grown_set _ _ _ _) (by omega)) (grown_set _ _ _ _) (by omega)) (by omega), ((((h.below.setCell (p := ⟨w.heap.size, 0, none⟩) (Nat.le_refl _) _).setCell (p := ⟨w.heap.size, 1, none⟩) (Nat.le_refl _) _).setCell (p := ⟨w.heap.size + 1, 0, none⟩) (by show w.heap.size ≤ w.heap.size + 1; omega) _).setCell (p := ⟨w.heap.size + 1, 1, none⟩) (by show w.heap.size ≤ w.heap.size + 1; omega) _)⟩
end
theorem WOk.edge {n : Nat} {ls : List Ld} {y : Nat} {x : Ld} (h : WOk (n : Int) ls) (hx : ls[y]? = some x) : eB (n : Int) (x.a, x.b) = true :=
  chk_eB (gB_chk h.1).2.1 (by unfold gE; exact List.mem_map.2 ⟨x, List.mem_of_getElem? hx, rfl⟩)

set_option maxRecDepth 100000 in
set_option maxHeartbeats 16000000 in
theorem drawRightWeb_any (w : World) (a : Option Addr) (len cap : Nat) (hl : len ≤ 1048576) (hcode : Code w w.heap.size a len) :
    Calls Tryz.prog 11 #[.slice a len cap] w fun x w' => ∃ (nn : Nat) (ls : List Ld) (e : EdgeV) (a' : Option Addr) (m c' : Nat), Hid (RW w w' nn ls a' m c') ∧ Hid (eB (nn : Int) e = true) ∧ x = .returned (.tuple #[.agg #[.int .i64 (nn : Int), .slice a' m c'], .agg #[.int .i64 e.1, .int .i64 e.2]]) ∧ Below w.heap.size w w' := by
  obtain ⟨W1, hW1⟩ : ∃ W1, W1 = (w.alloc (.cells #[.int .i64 0, .slice none 0 0] 26)).alloc (.cells #[.int .i64 0, .int .i64 0] 28) := ⟨_, rfl⟩
  have hb1 : Below w.heap.size w W1 := by rw [hW1]; exact ((Below.refl _ _).alloc (Nat.le_refl _) _).alloc (by simp) _
  have hs1 : W1.heap.size = w.heap.size + 1 + 1 := by rw [hW1]; simp
  have Q0 : Box7 W1 w.heap.size 26 (.int .i64 0) (.slice none 0 0) := by rw [hW1]; exact (Box7.new w 26 _ _ w.heap.size rfl).alloc _
  have Q1 : Box7 W1 (w.heap.size + 1) 28 (.int .i64 0) (.int .i64 0) := by rw [hW1]; exact Box7.new _ 28 _ _ _ (by simp)
  have HN := hideIt (l01New_any W1 a len cap hl (hcode.re hb1 (by omega)))
  rw [hs1] at HN
  have Hcd := hideIt hcode
  clear hcode
  go_enter Tryz.func11, Tryz.ntmps11
  go_upto_region 1 with fail
  rw [← hW1]
  clear hW1
  go_wp2_with (go_at_call 62; refine HN.out.mono ?_; rintro e w1 ⟨rfl, hc, hd, hb, hs⟩; refine Hid.out ?_)
  refine (show ∀ {p : Prop}, p → Hid p from fun h => h) ?_
  have HD := hideIt (l08Drawn_any w1 (w.heap.size + 1 + 1) a len cap hl hc hd)
  have hz1 := hc.lt7
  have Hb := hideIt hb
  have HQ0 := hideIt Q0
  have HQ1 := hideIt Q1
  have Hb1 := hideIt hb1
  clear HN hc hd hb hb1 Q0 Q1
  go_wp2_with (go_at_call 63; refine HD.out.mono ?_; rintro e w2 ⟨nn, ls, a', m, c', hR, rfl, d2⟩; refine Hid.out ?_)
  refine (show ∀ {p : Prop}, p → Hid p from fun h => h) ?_
  obtain ⟨hn, hw, o2⟩ := hR.out
  have hW := hideIt hw
  have zz := d2.grown.size
  obtain ⟨X, hX⟩ : ∃ X, X = w2.heap.size := ⟨_, rfl⟩
  obtain ⟨W3, hW3⟩ : ∃ W3, W3 = w2.alloc (.cells #[.int .i64 (nn : Int), .slice a' m c'] 26) := ⟨_, rfl⟩
  have D3 : RAt w X a len cap nn ls a' m c' W3 := by
    have hu : Below w2.heap.size w2 W3 := by rw [hW3]; exact (Below.refl _ _).alloc (Nat.le_refl _) _
    have q0 := (HQ0.out.up (by rw [hs1]; exact Hb.out)).grown d2.grown (by simp; omega)
    have q1 := (HQ1.out.up (by rw [hs1]; exact Hb.out)).grown d2.grown (by simp)
    refine ⟨d2.cur.up7 hu, q0.up hu, q1.up hu, by rw [hW3, hX]; exact Box7.new _ _ _ _ _ rfl, own_up (own_mono o2 (by omega)) hu, ?_, by omega⟩
    exact ((Hb1.out.trans (Hb.out.mono (by omega))).trans ((Below.refl w.heap.size w1).grown d2.grown (by omega) (fun j e => by cases e; omega))).trans (hu.mono (by omega))
  have HD3 := hideIt D3
  clear HD d2 o2 hw hR Hb HQ0 HQ1 Hb1 D3
  go_upto_region 3 with fail
  rw [← hW3, ← hX]
  clear hW3 hX zz hz1 hs1
  have hm66 : m ≤ 66 := by have h1 := (gB_chk hW.out.1).2.2; rw [gE_len] at h1; have := HD3.out.lss.1; omega
  have q0 := HD3.out.box.cell0
  have q1 := HD3.out.box.cell1
  have zX := HD3.out.box.lt
  have hX := HD3.out.high
  by_cases hm0 : 0 < m
  · have d0 : decide ((0 : Int) < (m : Int)) = true := decide_eq_true (by omega)
    have HX := hideIt (l01Once_any 4 (by omega) (by omega) W3 (w.heap.size + 1 + 1) a len cap hl HD3.out.cur (HD3.out.code Hcd.out))
    go_wp2_with (go_at_call 64; refine HX.out.mono ?_; rintro e w4 ⟨bb, rfl, d4⟩; refine Hid.out ?_)
    refine (show ∀ {p : Prop}, p → Hid p from fun h => h) ?_
    have HD4 := hideIt (HD3.out.drawn d4)
    clear HX HD3 q0 q1 d4
    cases bb with
    | false =>
      obtain ⟨bo, off, _, rfl, hbo, _, _⟩ := HD4.out.lss.at (k := 0) (by omega)
      have D0 := HD4.out
      have zX := HD4.out.box.lt
      have hzd : w4.drew.heap.size = w4.heap.size := rfl
      have HBe : Hid (∀ u, RAt w X a len cap nn ls (some ⟨bo, off, none⟩) m c' u → Calls Tryz.prog 65 #[.pointer (some ⟨w.heap.size + 1 + 1, 0, none⟩), .int .i64 (m : Int)] u fun e v => ∃ (y : Nat) (x : Ld), e = .returned (.int .i64 (y : Int)) ∧ (y : Int) < (m : Int) ∧ Hid (ls[y]? = some x) ∧ (v.cell? ⟨bo, off + y * 4, none⟩ = some (.int .i64 x.a) ∧ v.cell? ⟨bo, off + y * 4 + 1, none⟩ = some (.int .i64 x.b) ∧ v.cell? ⟨bo, off + y * 4 + 2, none⟩ = some (.int .i64 x.l) ∧ v.cell? ⟨bo, off + y * 4 + 3, none⟩ = some (.bool x.t)) ∧ bo < v.heap.size ∧ RAt w X a len cap nn ls (some ⟨bo, off, none⟩) m c' v ∧ KeepG4 (w.heap.size + 1 + 1) u v) := fun u hu =>
        (l01Below_any (m : Int) (by omega) (by omega) u (w.heap.size + 1 + 1) a len cap hl hu.cur (hu.code Hcd.out)).mono fun e v ⟨y, hy, he, hd⟩ => by
          have hv := hu.drawn hd
          obtain ⟨b, off', x, h1, h2, h3, h4⟩ := hv.lss.at (k := y) (by omega)
          cases h1
          exact ⟨y, x, he, hy, h3, ⟨h4.ca, h4.cb, h4.cl, h4.ct⟩, h2, hv, KeepG4.drawn hd⟩
      have HC : Hid (∀ u, RAt w X a len cap nn ls (some ⟨bo, off, none⟩) m c' u → u.cell? ⟨X, 1, none⟩ = some (.slice (some ⟨bo, off, none⟩) m c')) := fun u hu => hu.box.cell1
      have hS0 := HC.out _ D0
      go_upto_region 4 with fail
      clear HD4
      go_cut [6] (fun p wx => ∃ (b y : Nat) (x : Ld), p = .pointer (some ⟨b, 0, none⟩) ∧ Hid (ls[y]? = some x) ∧ RAt w X a len cap nn ls (some ⟨bo, off, none⟩) m c' wx ∧ Box4 wx b x ∧ X < b)
      case first =>
        go_region_with
          ((go_at_call 65; refine (HBe.out _ (by first | exact D0 | exact D0.drew | exact (D0.alloc _) | exact (D0.alloc _).drew | exact (D0.drew.alloc _) | exact (D0.drew.alloc _).drew)).mono ?_; rintro e w5 ⟨y, x, rfl, hy, hyx, ⟨ca, cb, cl, ct⟩, hb3, D5, hk5⟩; have hS5 := HC.out _ D5; have z5 := D5.box.lt; (first | have bx := hk5 _ _ (by omega) (Box4.new0 w4) | have bx := hk5 _ _ (by omega) (Box4.new0 w4.drew) | have bx := hk5 _ _ (by omega) (Box4.new0 w4).dr | have bx := hk5 _ _ (by omega) (Box4.new0 w4.drew).dr | skip); try (obtain ⟨bc0, bc1, bc2, bc3⟩ := bx.cells; have bl := bx.lt; have bz0 := bx.frozen 0; have bz1 := bx.frozen 1; have bz2 := bx.frozen 2; have bz3 := bx.frozen 3)))
        all_goals
          go_wp2_with fail
          go_meet
          first
          | exact ⟨_, y, x, rfl, hyx, D5.alloc _, Box4.new _ _ _ rfl, by omega⟩
          | exact ⟨_, y, x, rfl, hyx, D5.set4 (by omega) (fun g hg e => by have := (D0.own.lt g hg).2; omega) _ _ _ _, bx.set4 x, by omega⟩
      case rest =>
        obtain ⟨b, y, x, rfl, hyx, D5, bx, hXb⟩ := hcut
        have He := hideIt (hW.out.edge hyx.out)
        obtain ⟨bc0, bc1, bc2, bc3⟩ := bx.cells
        have x0 := D5.box.cell0
        have x1 := D5.box.cell1
        have y0 := D5.r0.cell0
        have y1 := D5.r0.cell1
        have y2 := D5.r0.frozen 0
        have y3 := D5.r0.frozen 1
        have y4 := D5.r1.cell0
        have y5 := D5.r1.cell1
        have y6 := D5.r1.frozen 0
        have y7 := D5.r1.frozen 1
        have HF := hideIt (D5.fin (x.a, x.b))
        clear D0 HC hS0 HBe D5 bx
        go_upto_region 5 with fail
        go_region
        all_goals
          go_wp2_with fail
          exact bodyPost_ret (v := .tuple #[.agg #[.int .i64 (nn : Int), .slice (some ⟨bo, off, none⟩) m c'], .agg #[.int .i64 x.a, .int .i64 x.b]]) (by simp [results, Tryz.results11, go_sem, y0, y1, y4, y5]) rfl ⟨nn, ls, x.a, x.b, _, m, c', ⟨hn, hW.out, own_up HF.out.1 (Below.refl _ _).drew⟩, He, rfl, HF.out.2.drew⟩
    | true =>
      have D0 := HD4.out
      have hS0 := D0.box.cell0
      have hS1 := D0.box.cell1
      have HEd : Hid (∀ u, RAt w X a len cap nn ls a' m c' u → Calls Tryz.prog 66 #[.pointer (some ⟨w.heap.size + 1 + 1, 0, none⟩), .int .i64 (nn : Int)] u fun x v => ∃ f : EdgeV, Hid (eB (nn : Int) f = true) ∧ x = .returned (.agg #[.int .i64 f.1, .int .i64 f.2]) ∧ RAt w X a len cap nn ls a' m c' v) := fun u hu =>
        (l05Edge_any nn hn.1 hn.2 u (w.heap.size + 1 + 1) a len cap hl hu.cur (hu.code Hcd.out)).mono fun x v ⟨f, hf, he, hd⟩ => ⟨f, hf, he, hu.drawn hd⟩
      clear HD4
      go_upto_region 6 with fail
      go_region_with
        ((go_at_call 66; refine (HEd.out _ (by first | exact D0 | exact D0.drew)).mono ?_; rintro e w5 ⟨f, hf, rfl, D5⟩; have x0 := D5.box.cell0; have x1 := D5.box.cell1; have y0 := D5.r0.cell0; have y1 := D5.r0.cell1; have y2 := D5.r0.frozen 0; have y3 := D5.r0.frozen 1; have y4 := D5.r1.cell0; have y5 := D5.r1.cell1; have y6 := D5.r1.frozen 0; have y7 := D5.r1.frozen 1))
      all_goals
        have HF := hideIt (D5.fin f)
        clear D5 D0
        go_wp2_with fail
        exact bodyPost_ret (v := .tuple #[.agg #[.int .i64 (nn : Int), .slice a' m c'], .agg #[.int .i64 f.1, .int .i64 f.2]]) (by simp [results, Tryz.results11, go_sem, y0, y1, y4, y5]) rfl ⟨nn, ls, f, _, m, c', ⟨hn, hW.out, HF.out.1⟩, hf, rfl, HF.out.2⟩
  · have d0 : decide ((0 : Int) < (m : Int)) = false := decide_eq_false (by omega)
    have HD4 := HD3
    clear HD3 q0 q1
    have D0 := HD4.out
    have hS0 := D0.box.cell0
    have hS1 := D0.box.cell1
    have HEd : Hid (∀ u, RAt w X a len cap nn ls a' m c' u → Calls Tryz.prog 66 #[.pointer (some ⟨w.heap.size + 1 + 1, 0, none⟩), .int .i64 (nn : Int)] u fun x v => ∃ f : EdgeV, Hid (eB (nn : Int) f = true) ∧ x = .returned (.agg #[.int .i64 f.1, .int .i64 f.2]) ∧ RAt w X a len cap nn ls a' m c' v) := fun u hu =>
      (l05Edge_any nn hn.1 hn.2 u (w.heap.size + 1 + 1) a len cap hl hu.cur (hu.code Hcd.out)).mono fun x v ⟨f, hf, he, hd⟩ => ⟨f, hf, he, hu.drawn hd⟩
    clear HD4
    go_upto_region 6 with fail
    go_region_with
      ((go_at_call 66; refine (HEd.out _ (by first | exact D0 | exact D0.drew)).mono ?_; rintro e w5 ⟨f, hf, rfl, D5⟩; have x0 := D5.box.cell0; have x1 := D5.box.cell1; have y0 := D5.r0.cell0; have y1 := D5.r0.cell1; have y2 := D5.r0.frozen 0; have y3 := D5.r0.frozen 1; have y4 := D5.r1.cell0; have y5 := D5.r1.cell1; have y6 := D5.r1.frozen 0; have y7 := D5.r1.frozen 1))
    all_goals
      have HF := hideIt (D5.fin f)
      clear D5 D0
      go_wp2_with fail
      exact bodyPost_ret (v := .tuple #[.agg #[.int .i64 (nn : Int), .slice a' m c'], .agg #[.int .i64 f.1, .int .i64 f.2]]) (by simp [results, Tryz.results11, go_sem, y0, y1, y4, y5]) rfl ⟨nn, ls, f, _, m, c', ⟨hn, hW.out, HF.out.1⟩, hf, rfl, HF.out.2⟩
end Go.Proofs.YtkkplppcgnikoaaGreat
