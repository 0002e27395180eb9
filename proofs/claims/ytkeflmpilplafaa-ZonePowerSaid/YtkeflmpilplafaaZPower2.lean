/-
  The n-th write of some drives: the law's walk.
-/
import Derived.Test.YtkeflmpilplafaaZPower1
namespace Go.Proofs.Ytkeflmpilplafaa
open Go.RowKit

theorem info_ptr : (Try.prog.info? 36).map (fun i => (i.zero, i.size, i.bytes)) = some (some (.pointer none), 1, 8) := by kernel_rfl
def ptrV (d : Nat) : Value := .pointer (some ⟨d, 0, none⟩)
/-- the caller's list of its drives -/
def LL (w : World) (O : Nat → Option Tag) (B : Nat) (v : Value) (dl : List Nat) : Prop := OwnV w B 36 v (dl.map ptrV) ∧ ∀ g, v.ownBlock = some g → O g = none
section
variable {w w' : World} {O O' : Nat → Option Tag} {B : Nat} {v : Value} {dl : List Nat}
theorem LL.step (h : LL w O B v dl) (hx : Ext w O w' O') : LL w' O' B v dl :=
  ⟨h.1.move fun g hg => hx.1.block g (h.1.ge g hg).2 (h.2 g hg), fun g hg => (hx.2 g (h.1.ge g hg).2).trans (h.2 g hg)⟩
theorem LL.alloc (h : LL w O B v dl) (o : Obj) : LL (w.alloc o) O B v dl := ⟨h.1.alloc o, h.2⟩
end
theorem sys_fresh {w : World} {O : Nat → Option Tag} {pw : Nat} {P : Pow} {ds : List (Nat × Drv)} (h : SysAt w O pw P ds) {b : Nat} (hb : w.heap.size ≤ b) : O b = none := by
  rcases hO : O b with _ | t
  · rfl
  · have := h.fresh b (by rw [hO]; simp)
    omega
/-- what the caller holds behind some drives -/
def Made (w0 : World) (pw : Nat) (k : Nat) (v : Value) (w : World) : Prop :=
  ∃ (O : Nat → Option Tag) (dl : List Nat), dl.length = k ∧ Cl w0 w O pw Pow.new (dl.map fun d => (d, Dz 0)) ∧ LL w O w0.heap.size v dl
theorem Cl.new2 {w0 w : World} {O : Nat → Option Tag} {pw : Nat} {P : Pow} {ds : List (Nat × Drv)} (h : Cl w0 w O pw P ds) (zones cap size : Nat) (hn : ds.length ≤ 1048576) (z1 : 1 ≤ zones) (z2 : zones ≤ 4096) (p1 : 1 ≤ cap) (p2 : cap ≤ 4096) (s1 : 32 ≤ size) (s2 : size ≤ 65536) :
    Calls Try.prog 9 #[.pointer (some ⟨pw, 0, none⟩), .int .i64 (zones : Int), .int .i64 (cap : Int), .int .i64 (size : Int)] w fun e w' => ∃ d O', e = .returned (.tuple #[.pointer (some ⟨d, 0, none⟩), .int .i64 0]) ∧ Cl w0 w' O' pw P (ds ++ [(d, Drv.new zones cap size)]) ∧ Ext w O w' O' :=
  (new_ok pw P ds O zones cap size w h.1 hn z1 z2 p1 p2 s1 s2).mono fun e w' ⟨O', d, he, hs, hx⟩ => ⟨d, O', he, h.step hs hx, hx⟩
/-- a drive more, still to be listed -/
def MadeD (w0 : World) (pw : Nat) (k d : Nat) (v : Value) (w : World) : Prop :=
  ∃ (O : Nat → Option Tag) (dl : List Nat), dl.length = k ∧ Cl w0 w O pw Pow.new ((dl ++ [d]).map fun d => (d, Dz 0)) ∧ LL w O w0.heap.size v dl
theorem Made.new {w0 w : World} {pw k : Nat} {v : Value} (h : Made w0 pw k v w) (hk : k ≤ 3) :
    Calls Try.prog 9 #[.pointer (some ⟨pw, 0, none⟩), .int .i64 1, .int .i64 300, .int .i64 32] w fun e w' => ∃ d, e = .returned (.tuple #[.pointer (some ⟨d, 0, none⟩), .int .i64 0]) ∧ MadeD w0 pw k d v w' := by
  obtain ⟨O, dl, hl, hc, hL⟩ := h
  refine (hc.new2 1 300 32 (by simp; omega) (by omega) (by omega) (by omega) (by omega) (by omega) (by omega)).mono fun e w' ⟨d, O', he, hc', hx⟩ => ⟨d, he, O', dl, hl, ?_, hL.step hx⟩
  rw [List.map_append]
  exact hc'
theorem Made.listed {w0 w w' : World} {pw k d : Nat} {v v' : Value} {o : Obj} {O : Nat → Option Tag} {dl : List Nat} (hl : dl.length = k) (hc : Cl w0 w O pw Pow.new ((dl ++ [d]).map fun d => (d, Dz 0))) (hL : LL w O w0.heap.size v dl)
    (hown : OwnV w' w0.heap.size 36 v' (dl.map ptrV ++ [ptrV d])) (hg : (w.alloc o).grownBy w' v.ownBlock) (hb : v'.ownBlock = v.ownBlock ∨ v'.ownBlock = some (w.alloc o).heap.size) : Made w0 pw (k + 1) v' w' := by
  have hk : Kept (fun b => O b ≠ none) w w' := ((Kept.refl _ w).alloc o).grown hg (fun g e hO => hO (hL.2 g e))
  have hbe : Below w0.heap.size w w' := by
    exact ((Below.refl w0.heap.size w).alloc hc.2.2.size o).grown hg (Nat.le_trans hc.2.2.size (by simp)) (fun g e => (hL.1.ge g e).1)
  refine ⟨O, dl ++ [d], by simp [hl], ⟨hc.1.kept hk, hc.2.1, hc.2.2.trans hbe⟩, ?_, fun g hgv => ?_⟩
  · rw [List.map_append]; exact hown
  · rcases hb with e | e
    · rw [e] at hgv; exact hL.2 g hgv
    · rw [e] at hgv
      cases hgv
      exact sys_fresh hc.1 (by simp)

/-- what the caller holds behind i writes -/
def Played (w0 : World) (pw : Nat) (dl : List Nat) (v : Value) (i m : Nat) (w : World) : Prop :=
  ∃ (O : Nat → Option Tag) (ds : List (Nat × Drv)), Cl w0 w O pw (Pi i m) ds ∧ DsOk dl i ds ∧ LL w O w0.heap.size v dl
theorem Made.arm {w0 w : World} {pw k m : Nat} {v : Value} {n : Int} (h : Made w0 pw k v w) (hk : k ≤ 3) (hm : (max n 1).toNat = m) :
    Calls Try.prog 20 #[.pointer (some ⟨pw, 0, none⟩), .int .i64 n, .slice none 0 0] w fun e w' => e = .returned (.tuple #[]) ∧ ∃ dl : List Nat, dl.length = k ∧ Played w0 pw dl v 0 m w' := by
  obtain ⟨O, dl, hl, hc, hL⟩ := h
  refine (arm_any pw Pow.new _ O n none 0 [] w hc.1 (RI.nil _ _ _) (by simp)).mono fun e w' ⟨O', he, hs, hx⟩ => ⟨he, dl, hl, O', dl.map fun d => (d, Dz 0), ?_, ?_, hL.step hx⟩
  · have e1 : armP Pow.new n [] = Pi 0 m := by
      unfold armP Pi Pow.new
      rw [hm, if_pos (by omega)]
      rfl
    rw [← e1]
    exact hc.step hs hx
  · refine ⟨by rw [List.map_map]; simp [Function.comp_def], fun x hx' => ?_⟩
    obtain ⟨y, hy, rfl⟩ := List.mem_map.1 hx'
    exact ⟨0, Nat.le_refl _, rfl⟩
theorem Played.drive {w0 w : World} {pw i m j : Nat} {dl : List Nat} {v : Value} (h : Played w0 pw dl v i m w) (hj : j < dl.length) : ∃ g c, v = .slice (some ⟨g, 0, none⟩) dl.length c ∧ w.cell? ⟨g, j, none⟩ = some (.pointer (some ⟨dl[j], 0, none⟩)) := by
  obtain ⟨O, ds, hc, hd, hL⟩ := h
  obtain ⟨A, c, e, _, _, hrd⟩ := hL.1.rd
  obtain ⟨g, e2, _, hcell⟩ := hrd j (ptrV dl[j]) (by simp [hj])
  subst e2
  exact ⟨g, c, by rw [e]; simp, hcell⟩
/-- a page of noughts, made just now, behind the zone's last one -/
theorem Played.append {w0 w : World} {pw i m j : Nat} {dl : List Nat} {v : Value} {cs : Array Value} (h : Played w0 pw dl v i m w) (hj : j < dl.length) (hi : i ≤ 200) (hm : 1 ≤ m) (hm2 : m ≤ 9223372036854775807) (hdl : dl.length ≤ 3) (hcs : cs = (bvs (List.replicate 32 0)).toArray) (q : Nat) :
    Calls Try.prog 16 #[.pointer (some ⟨dl[j], 0, none⟩), .int .i64 0, .slice (some ⟨w.heap.size, 0, none⟩) 32 32] ((w.drewN q).alloc (.cells cs 5)) fun e w' => e = .returned (.int .i64 ((if i + 1 < m then 0 else 8 : Nat) : Int)) ∧ Played w0 pw dl v (i + 1) m w' := by
  obtain ⟨O, ds, hc, hd, hL⟩ := h
  have hc2 := (hc.drewN q).alloc (.cells cs 5)
  have hL2 : LL ((w.drewN q).alloc (.cells cs 5)) O w0.heap.size v dl := LL.alloc (w := w.drewN q) hL _
  have hpg : Pg ((w.drewN q).alloc (.cells cs 5)) O w.heap.size zs := Pg.new (hc.drewN q).1 cs hcs
  have hlen : ds.length = dl.length := by rw [← hd.1]; simp
  have hjd : j < ds.length := by omega
  obtain ⟨c, hcl, hce⟩ := hd.2 ds[j] (List.getElem_mem hjd)
  have hfst : ds[j].1 = dl[j] := by
    have : (ds.map (·.1))[j]? = dl[j]? := by rw [hd.1]
    simpa [hjd, hj] using this
  have hdj : ds[j]? = some (dl[j], Dz c) := by rw [List.getElem?_eq_getElem hjd, ← hfst, ← hce]
  obtain ⟨s1, s2, s3⟩ := step_play dl i m j dl[j] c ds hd hdj hcl hi hm
  have hb := Pi_left i m
  refine (append_any pw j dl[j] (Pi i m) ds (Dz c) O 0 (some ⟨w.heap.size, 0, none⟩) 32 zs _ hc2.1 hdj (by omega) (by omega) (by omega) hpg.1 (fun ad e => by cases e; exact hpg.2.1)).mono fun e w' ⟨O', he, hs, hx⟩ => ?_
  rw [s1] at he
  rw [s2] at hs
  exact ⟨he, O', _, hc2.step hs hx, s3, hL2.step hx⟩
theorem Played.off {w0 w : World} {pw i m : Nat} {dl : List Nat} {v : Value} (h : Played w0 pw dl v i m w) : Calls Try.prog 21 #[.pointer (some ⟨pw, 0, none⟩)] w fun e w' => e = .returned (.bool (decide (m ≤ i))) ∧ w = w' := by
  obtain ⟨O, ds, hc, hd, hL⟩ := h
  rw [← Pi_off]
  exact sysOff hc.1
theorem Played.below {w0 w : World} {pw i m : Nat} {dl : List Nat} {v : Value} (h : Played w0 pw dl v i m w) : Below w0.heap.size w0 w := by
  obtain ⟨O, ds, hc, hd, hL⟩ := h
  exact hc.2.2
/-- the power is on again, and a last page comes -/
def Again (w0 : World) (pw : Nat) (dl : List Nat) (v : Value) (i m : Nat) (w : World) : Prop :=
  ∃ (O : Nat → Option Tag) (ds : List (Nat × Drv)), Cl w0 w O pw { Pi i m with off := false } ds ∧ DsOk dl i ds ∧ LL w O w0.heap.size v dl
def Last (w0 : World) (pw : Nat) (i m : Nat) (w : World) : Prop :=
  ∃ (O : Nat → Option Tag) (P : Pow) (ds : List (Nat × Drv)), Cl w0 w O pw P ds ∧ (i + 1 = m → P.off = true) ∧ (i + 1 ≠ m → P.writes = (if i < m then i else m - 1) + 1)
theorem Played.on {w0 w : World} {pw i m : Nat} {dl : List Nat} {v : Value} (h : Played w0 pw dl v i m w) : Calls Try.prog 22 #[.pointer (some ⟨pw, 0, none⟩)] w fun e w' => e = .returned (.tuple #[]) ∧ Again w0 pw dl v i m w' := by
  obtain ⟨O, ds, hc, hd, hL⟩ := h
  exact (sysOn hc.1).mono fun e w' ⟨he, hs, hx⟩ => ⟨he, O, ds, hc.step hs hx, hd, hL.step hx⟩
theorem Again.drive {w0 w : World} {pw i m j : Nat} {dl : List Nat} {v : Value} (h : Again w0 pw dl v i m w) (hj : j < dl.length) : ∃ g c, v = .slice (some ⟨g, 0, none⟩) dl.length c ∧ w.cell? ⟨g, j, none⟩ = some (.pointer (some ⟨dl[j], 0, none⟩)) := by
  obtain ⟨O, ds, hc, hd, hL⟩ := h
  obtain ⟨A, c, e, _, _, hrd⟩ := hL.1.rd
  obtain ⟨g, e2, _, hcell⟩ := hrd j (ptrV dl[j]) (by simp [hj])
  subst e2
  exact ⟨g, c, by rw [e]; simp, hcell⟩
theorem Again.append {w0 w : World} {pw i m j : Nat} {dl : List Nat} {v : Value} {cs : Array Value} (h : Again w0 pw dl v i m w) (hj : j < dl.length) (hi : i ≤ 200) (hm : 1 ≤ m) (hm2 : m ≤ 9223372036854775807) (hdl : dl.length ≤ 3) (hcs : cs = (bvs (List.replicate 32 0)).toArray) (q : Nat) :
    Calls Try.prog 16 #[.pointer (some ⟨dl[j], 0, none⟩), .int .i64 0, .slice (some ⟨w.heap.size, 0, none⟩) 32 32] ((w.drewN q).alloc (.cells cs 5)) fun e w' => e = .returned (.int .i64 ((if i + 1 = m then 8 else 0 : Nat) : Int)) ∧ Last w0 pw i m w' := by
  obtain ⟨O, ds, hc, hd, hL⟩ := h
  have hc2 := (hc.drewN q).alloc (.cells cs 5)
  have hpg : Pg ((w.drewN q).alloc (.cells cs 5)) O w.heap.size zs := Pg.new (hc.drewN q).1 cs hcs
  have hlen : ds.length = dl.length := by rw [← hd.1]; simp
  have hjd : j < ds.length := by omega
  obtain ⟨c, hcl, hce⟩ := hd.2 ds[j] (List.getElem_mem hjd)
  have hfst : ds[j].1 = dl[j] := by
    have : (ds.map (·.1))[j]? = dl[j]? := by rw [hd.1]
    simpa [hjd, hj] using this
  have hdj : ds[j]? = some (dl[j], Dz c) := by rw [List.getElem?_eq_getElem hjd, ← hfst, ← hce]
  obtain ⟨s1, s2⟩ := step_last dl i m j dl[j] c ds hd hdj hcl hi hm
  have hb := Pi_left i m
  refine (append_any pw j dl[j] { Pi i m with off := false } ds (Dz c) O 0 (some ⟨w.heap.size, 0, none⟩) 32 zs _ hc2.1 hdj (by omega) (by show (Pi i m).writes ≤ _; omega) (by show (Pi i m).left ≤ _; omega) hpg.1 (fun ad e => by cases e; exact hpg.2.1)).mono fun e w' ⟨O', he, hs, hx⟩ => ?_
  by_cases hq : i + 1 = m
  · rw [if_pos hq]
    rw [(s1 hq).1] at he
    exact ⟨he, O', _, _, hc2.step hs hx, fun _ => (s1 hq).2, fun h => absurd hq h⟩
  · rw [if_neg hq]
    rw [(s2 hq).1] at he
    exact ⟨he, O', _, _, hc2.step hs hx, fun h => absurd h hq, fun _ => (s2 hq).2⟩
theorem Last.off {w0 w : World} {pw i m : Nat} (h : Last w0 pw i m w) (hq : i + 1 = m) : Calls Try.prog 21 #[.pointer (some ⟨pw, 0, none⟩)] w fun e w' => e = .returned (.bool true) ∧ w = w' := by
  obtain ⟨O, P, ds, hc, h1, h2⟩ := h
  rw [← h1 hq]
  exact sysOff hc.1
theorem Last.writes {w0 w : World} {pw i m : Nat} (h : Last w0 pw i m w) (hq : i + 1 ≠ m) : Calls Try.prog 23 #[.pointer (some ⟨pw, 0, none⟩)] w fun e w' => e = .returned (.int .i64 (((if i < m then i else m - 1) + 1 : Nat) : Int)) ∧ w = w' := by
  obtain ⟨O, P, ds, hc, h1, h2⟩ := h
  rw [← h2 hq]
  exact sysWrites hc.1
theorem Last.below {w0 w : World} {pw i m : Nat} (h : Last w0 pw i m w) : Below w0.heap.size w0 w := by
  obtain ⟨O, P, ds, hc, h1, h2⟩ := h
  exact hc.2.2
end Go.Proofs.Ytkeflmpilplafaa
