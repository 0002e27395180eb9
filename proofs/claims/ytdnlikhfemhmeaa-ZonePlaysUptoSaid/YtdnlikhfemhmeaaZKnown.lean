/-
  The law's chapter example: what its caller holds, step by step.
-/
import Derived.Test.YtdnlikhfemhmeaaZFlush
namespace Go.Proofs.Ytdnlikhfemhmeaa
open Go.RowKit

/-- what a caller holds that began at w0: a system of its own, and nothing elder has turned -/
def Cl (w0 w : World) (O : Nat → Option Tag) (pw : Nat) (P : Pow) (ds : List (Nat × Drv)) : Prop := SysAt w O pw P ds ∧ (∀ x, x < w0.heap.size → O x = none) ∧ Below w0.heap.size w0 w
/-- bytes of the caller's own -/
def Pg (w : World) (O : Nat → Option Tag) (b : Nat) (l : List UInt8) : Prop := RB w w.heap.size (some ⟨b, 0, none⟩) l ∧ O b = none ∧ b < w.heap.size
section
variable {w0 w w' : World} {O O' : Nat → Option Tag} {pw b : Nat} {P P' : Pow} {ds ds' : List (Nat × Drv)} {l : List UInt8}
theorem Cl.step (h : Cl w0 w O pw P ds) (hs : SysAt w' O' pw P' ds') (hx : Ext w O w' O') : Cl w0 w' O' pw P' ds' := by
  obtain ⟨h1, h2, h3⟩ := h
  refine ⟨hs, fun x hxl => (hx.2 x (Nat.lt_of_lt_of_le hxl h3.size)).trans (h2 x hxl), h3.trans (hx.1.to_below (fun x hxl => h2 x hxl) h3.size)⟩
theorem Cl.alloc (h : Cl w0 w O pw P ds) (o : Obj) : Cl w0 (w.alloc o) O pw P ds := ⟨h.1.kept ((Kept.refl _ w).alloc o), h.2.1, h.2.2.alloc h.2.2.size o⟩
theorem Cl.drewN (h : Cl w0 w O pw P ds) (n : Nat) : Cl w0 (w.drewN n) O pw P ds := ⟨h.1.drewN n, h.2.1, below_drewN h.2.2 n⟩
theorem Cl.below (h : Cl w0 w O pw P ds) (hb : Below w.heap.size w w') : Cl w0 w' O pw P ds := ⟨h.1.kept ((Kept.refl _ w).below hb), h.2.1, h.2.2.trans (hb.mono h.2.2.size)⟩
theorem Pg.step (h : Pg w O b l) (hx : Ext w O w' O') : Pg w' O' b l :=
  ⟨(h.1.kept hx.1 (fun _ ad e => by cases e; exact h.2.1) (Nat.le_refl _)).wide hx.1.size, (hx.2 b h.2.2).trans h.2.1, Nat.lt_of_lt_of_le h.2.2 hx.1.size⟩
theorem Pg.alloc (h : Pg w O b l) (o : Obj) : Pg (w.alloc o) O b l := ⟨(h.1.alloc (Nat.le_refl _) o).wide (by simp), h.2.1, by have := h.2.2; simp; omega⟩
theorem Pg.new (h : SysAt w O pw P ds) (cs : Array Value) (hcs : cs = (bvs l).toArray) : Pg (w.alloc (.cells cs 5)) O w.heap.size l := by
  subst hcs
  refine ⟨RB.new w _ _ l (by simp) |>.wide (by simp), ?_, by simp⟩
  rcases hO : O w.heap.size with _ | t
  · rfl
  · have := h.fresh w.heap.size (by rw [hO]; simp)
    omega
end
/-- make([]byte, n) -/
theorem make_run (n : Nat) (hn : n ≤ 1099511627776) : ∃ cs : Array Value, Hid (cs = (bvs (List.replicate n 0)).toArray) ∧
    ∀ u : World, (Instr.makeSlice 46 (.int .i64 (n : Int)) (.int .i64 (n : Int))).run Try.prog u = .ok (.slice (some ⟨u.heap.size, 0, none⟩) n n) (u.alloc (.cells cs 5)) := by
  obtain ⟨i0, hi, hz0, hz1, hz2⟩ := info_parts info8
  refine ⟨_, rfl, fun u => ?_⟩
  have h := run_make (P := Try.prog) u 46 5 i0 (.int .u8 0) Try.underlying46 hi hz0 .i64 .i64 (n : Int) (n : Int) (by omega) (Int.le_refl _) (by rw [hz2]; omega) (by omega)
  rw [h]
  simp only [Int.toNat_natCast, hz1, Nat.mul_one]
  congr 3
  apply Array.toList_inj.1
  show (madeCells #[Value.int .u8 0] n).toList = _
  rw [toList_madeCells_one]
  simp [bvs, bv]

def zs : List UInt8 := List.replicate 32 0
/-- the caller with its page -/
def KS (w0 : World) (pw b : Nat) (P : Pow) (ds : List (Nat × Drv)) (w : World) : Prop := ∃ O, Cl w0 w O pw P ds ∧ Pg w O b zs
section
variable {w0 w : World} {pw b i d : Nat} {P : Pow} {ds : List (Nat × Drv)} {D : Drv}
theorem KS.append (h : KS w0 pw b P ds w) (hi : ds[i]? = some (d, D)) (z : Int) (hn : ds.length ≤ 1048576) (hw : P.writes ≤ 1099511627776) (hl : P.left ≤ 9223372036854775807) :
    Calls Try.prog 16 #[.pointer (some ⟨d, 0, none⟩), .int .i64 z, .slice (some ⟨b, 0, none⟩) 32 32] w fun e w' => e = .returned (.int .i64 (appCode P D z zs : Nat)) ∧ KS w0 pw b (appP P D z zs) (appD P ds i d D z zs) w' := by
  obtain ⟨O, h1, h2⟩ := h
  exact (append_any pw i d P ds D O z (some ⟨b, 0, none⟩) 32 zs w h1.1 hi hn hw hl h2.1 (fun _ ad e => by cases e; exact h2.2.1)).mono fun e w' ⟨O', he, hs, hx⟩ => ⟨he, O', h1.step hs hx, h2.step hx⟩
theorem KS.flush (h : KS w0 pw b P ds w) (hi : ds[i]? = some (d, D)) (hn : ds.length ≤ 1048576) (hw : P.writes ≤ 1099511627776) (hl : P.left ≤ 9223372036854775807) :
    Calls Try.prog 17 #[.pointer (some ⟨d, 0, none⟩)] w fun e w' => e = .returned (.int .i64 (flCode P D : Nat)) ∧ KS w0 pw b (flP P D) (flD P ds i d D) w' := by
  obtain ⟨O, h1, h2⟩ := h
  exact (driveFlush_any pw i d P ds D O w h1.1 hi hn hw hl).mono fun e w' ⟨O', he, hs, hx⟩ => ⟨he, O', h1.step hs hx, h2.step hx⟩
theorem KS.pointer (h : KS w0 pw b P ds w) (hi : ds[i]? = some (d, D)) (z : Int) :
    Calls Try.prog 19 #[.pointer (some ⟨d, 0, none⟩), .int .i64 z] w fun e w' => e = .returned (.tuple #[.int .i64 (ptrNum P D z : Nat), .int .i64 (ptrCode P D z : Nat)]) ∧ w = w' := by
  obtain ⟨O, h1, h2⟩ := h
  exact pointer_any pw i d P ds D O z w h1.1 hi
theorem KS.off (h : KS w0 pw b P ds w) : Calls Try.prog 21 #[.pointer (some ⟨pw, 0, none⟩)] w fun e w' => e = .returned (.bool P.off) ∧ w = w' := by
  obtain ⟨O, h1, h2⟩ := h
  exact sysOff h1.1
theorem KS.writes (h : KS w0 pw b P ds w) : Calls Try.prog 23 #[.pointer (some ⟨pw, 0, none⟩)] w fun e w' => e = .returned (.int .i64 (P.writes : Int)) ∧ w = w' := by
  obtain ⟨O, h1, h2⟩ := h
  exact sysWrites h1.1
theorem KS.on (h : KS w0 pw b P ds w) : Calls Try.prog 22 #[.pointer (some ⟨pw, 0, none⟩)] w fun e w' => e = .returned (.tuple #[]) ∧ KS w0 pw b { P with off := false } ds w' := by
  obtain ⟨O, h1, h2⟩ := h
  exact (sysOn h1.1).mono fun e w' ⟨he, hs, hx⟩ => ⟨he, O, h1.step hs hx, h2.step hx⟩
/-- Arm with a list of one number, made just now -/
theorem KS.arm1 (h : KS w0 pw b P ds w) (n x : Int) :
    Calls Try.prog 20 #[.pointer (some ⟨pw, 0, none⟩), .int .i64 n, .slice (some ⟨w.heap.size, 0, none⟩) 1 1] (w.alloc (.cells #[.int .i64 x] 3)) fun e w' => e = .returned (.tuple #[]) ∧ KS w0 pw b (armP P n [x]) ds w' := by
  obtain ⟨O, h1, h2⟩ := h
  have h1' := h1.alloc (.cells #[.int .i64 x] 3)
  have h2' := h2.alloc (.cells #[.int .i64 x] 3)
  have hr : RI (w.alloc (.cells #[.int .i64 x] 3)) (w.alloc (.cells #[.int .i64 x] 3)).heap.size (some ⟨w.heap.size, 0, none⟩) [x] := by
    intro k y hy
    match k, hy with
    | 0, hy => simp at hy; subst hy; exact ⟨_, rfl, by simp, cell_new _ _ _⟩
    | k + 1, hy => simp at hy
  exact (arm_any pw P ds O n (some ⟨w.heap.size, 0, none⟩) 1 [x] _ h1'.1 hr (by simp)).mono fun e w' ⟨O', he, hs, hx⟩ => ⟨he, O', h1'.step hs hx, h2'.step hx⟩
theorem KS.fin (h : KS w0 pw b P ds w) : Below w0.heap.size w0 w := by
  obtain ⟨O, h1, h2⟩ := h
  exact h1.2.2
end
/-- a power and a drive, made just now -/
theorem begin_pow (w : World) : Calls Try.prog 8 #[] w fun e w' => e = .returned (.pointer (some ⟨w.heap.size, 0, none⟩)) ∧ ∃ O, Cl w w' O w.heap.size Pow.new [] := by
  refine (newPower_any w).mono fun e w' ⟨he, hs, hb⟩ => ⟨he, _, hs, fun x hx => if_neg (by omega), hb⟩
theorem Cl.new {w0 w : World} {O : Nat → Option Tag} {pw : Nat} {P : Pow} {ds : List (Nat × Drv)} (h : Cl w0 w O pw P ds) (zones cap size : Nat) (hn : ds.length ≤ 1048576) (z1 : 1 ≤ zones) (z2 : zones ≤ 4096) (p1 : 1 ≤ cap) (p2 : cap ≤ 4096) (s1 : 32 ≤ size) (s2 : size ≤ 65536) :
    Calls Try.prog 9 #[.pointer (some ⟨pw, 0, none⟩), .int .i64 (zones : Int), .int .i64 (cap : Int), .int .i64 (size : Int)] w fun e w' => ∃ d O', e = .returned (.tuple #[.pointer (some ⟨d, 0, none⟩), .int .i64 0]) ∧ Cl w0 w' O' pw P (ds ++ [(d, Drv.new zones cap size)]) :=
  (new_ok pw P ds O zones cap size w h.1 hn z1 z2 p1 p2 s1 s2).mono fun e w' ⟨O', d, he, hs, hx⟩ => ⟨d, O', he, h.step hs hx⟩
end Go.Proofs.Ytdnlikhfemhmeaa
