/-
  The log's device and its power as plain data, and in memory; whose a block is.
-/
import Derived.Test.YtkjogkmdldplgaaDoorZClone
import Derived.Laws.CopyRow
namespace Go.Proofs.YtkjogkmdldplgaaDoor
open Go.RowKit

/-- l with the stretch from off on being r -/
def splat (l : List UInt8) (off : Nat) (r : List UInt8) : List UInt8 := l.take off ++ (r ++ l.drop (off + r.length))
theorem splat_length (l : List UInt8) (off : Nat) (r : List UInt8) (h : off + r.length ≤ l.length) : (splat l off r).length = l.length := by
  simp [splat]; omega
theorem splat_nil (l : List UInt8) (off : Nat) : splat l off [] = l := by simp [splat]
theorem size8 : (Tryd.prog.info? 5).map (·.size) = some 1 := by kernel_rfl
/-- copy into a stretch of a block, as one run equation -/
theorem copy_run (W : World) (g off dLen dCap : Nat) (A : Option Addr) (x l : List UInt8) (c B : Nat) (hr : RB W B A x) (hb : Blk W g l) (hd : x.length ≤ dLen) (hfit : off + x.length ≤ l.length) :
    ∃ W', (Builtin.copy_ #[35, 35] 3 #[.slice (some ⟨g, off, none⟩) dLen dCap, .slice A x.length c]).run Tryd.prog W = .ok (.int .i64 (x.length : Int)) W' ∧ Blk W' g (splat l off x) ∧ Kept (fun b => b ≠ g) W W' := by
  by_cases h0 : x.length = 0
  · obtain rfl : x = [] := List.eq_nil_of_length_eq_zero h0
    refine ⟨W, run_copy_none (P := Tryd.prog) W _ _ 3 5 _ _ _ _ _ _ Tryd.underlying35 size8 (by simp), by rw [splat_nil]; exact hb, Kept.refl _ _⟩
  · obtain ⟨ad, rfl, _, _⟩ := hr.at_ (show 0 < x.length by omega)
    have hrun := run_copy_row (P := Tryd.prog) W 35 35 3 5 g off dLen dCap ad x.length c (bvs l).toArray 5 (bvs x) Tryd.underlying35 size8 hb
      (by rw [bvs_length]; exact (Nat.min_eq_left hd).symm) (fun j u hu => by
        simp only [bvs, List.getElem?_map, Option.map_eq_some_iff] at hu
        obtain ⟨y, hy, rfl⟩ := hu
        obtain ⟨ad', e, _, hc⟩ := hr j y hy
        cases e
        exact hc) (by simp [bvs]; omega) (bvs_one x)
    have e : (bvs l).take off ++ bvs x ++ (bvs l).drop (off + (bvs x).length) = bvs (splat l off x) := by
      simp [bvs, splat]
    rw [show (bvs l).toArray.toList = bvs l from rfl, e, bvs_length] at hrun
    exact ⟨_, hrun, setRow_heap W g _ _ _ _ hb, ⟨rfl, rfl, rfl, by simp, fun k _ hk => setRow_other W g k _ hk⟩⟩

structure Und where
  at_ : Nat
  was : List UInt8
  ahead : Nat
structure Dev where
  mem : List UInt8
  undos : List Und
  pending : Nat
structure Pow where
  off : Bool
  writes : Nat
  left : Nat
  picks : List Int
def Pow.new : Pow := ⟨false, 0, 0, []⟩
/-- the bounds of a device's numbers -/
structure Dev.Ok (D : Dev) : Prop where
  low : 64 ≤ D.mem.length
  high : D.mem.length ≤ 67108864
  fits : ∀ u ∈ D.undos, u.at_ + u.was.length ≤ D.mem.length
  ahead : ∀ u ∈ D.undos, u.ahead + u.was.length ≤ D.pending
  some_ : ∀ u ∈ D.undos, 1 ≤ u.was.length
  count : D.undos.length ≤ D.pending

/-- whose a block is -/
inductive Tag where
  | pw
  | dev
  | picks
  | nv
  | bytes
  | undos
  | undo

def undoV (a7 a6 a3 a4 : Nat) : Value := .func (.func 65) #[] #[.pointer (some ⟨a7, 0, none⟩), .pointer (some ⟨a6, 0, none⟩), .pointer (some ⟨a3, 0, none⟩), .pointer (some ⟨a4, 0, none⟩)]
def UndoAt (w : World) (O : Nat → Option Tag) (nv : Nat) (v : Value) (u : Und) : Prop :=
  ∃ (a7 a6 a3 a4 : Nat) (A : Option Addr) (c : Nat), v = undoV a7 a6 a3 a4 ∧ w.cell? ⟨a7, 0, none⟩ = some (.int .i64 (u.ahead : Int)) ∧ w.cell? ⟨a6, 0, none⟩ = some (.slice A u.was.length c) ∧ w.cell? ⟨a3, 0, none⟩ = some (.pointer (some ⟨nv, 0, none⟩)) ∧ w.cell? ⟨a4, 0, none⟩ = some (.int .i64 (u.at_ : Int)) ∧
    O a7 = some .undo ∧ O a6 = some .undo ∧ O a3 = some .undo ∧ O a4 = some .undo ∧ RB w w.heap.size A u.was ∧ (∀ ad, A = some ad → O ad.block = some .undo) ∧ u.was.length ≤ c ∧ c ≤ 9223372036854775807
def DevAt (w : World) (O : Nat → Option Tag) (pw nv : Nat) (D : Dev) : Prop :=
  ∃ (bb : Nat) (uv : Value) (vs : List Value), Cells w nv 54 [.pointer (some ⟨pw, 0, none⟩), .slice (some ⟨bb, 0, none⟩) D.mem.length D.mem.length, uv, .int .i64 (D.pending : Int)] ∧ O nv = some .nv ∧ Blk w bb D.mem ∧ O bb = some .bytes ∧
    OwnV w 0 162 uv vs ∧ (∀ g, uv.ownBlock = some g → O g = some .undos) ∧ vs.length = D.undos.length ∧ ∀ (k : Nat) u, D.undos[k]? = some u → ∃ v, vs[k]? = some v ∧ UndoAt w O nv v u
def devV (d : Nat) : Value := .iface 23 (.pointer (some ⟨d, 0, none⟩))
def PowAt (w : World) (O : Nat → Option Tag) (pw : Nat) (P : Pow) (dl : List Nat) : Prop :=
  ∃ (dv : Value) (A : Option Addr) (c : Nat), Cells w pw 59 [dv, .bool P.off, .int .i64 (P.writes : Int), .int .i64 (P.left : Int), .slice A P.picks.length c] ∧ O pw = some .pw ∧
    OwnV w 0 84 dv (dl.map devV) ∧ (∀ g, dv.ownBlock = some g → O g = some .dev) ∧
    RI w w.heap.size A P.picks ∧ (∀ ad, A = some ad → O ad.block = some .picks) ∧ P.picks.length ≤ c ∧ P.picks.length ≤ 1099511627776
structure SysAt (w : World) (O : Nat → Option Tag) (pw : Nat) (P : Pow) (nv : Nat) (D : Dev) : Prop where
  fresh : ∀ b, O b ≠ none → b < w.heap.size
  dev : DevAt w O pw nv D
  ok : D.Ok
  pow : PowAt w O pw P [nv]
/-- what is not the system's is as it was; old blocks keep their owners -/
def Ext (w : World) (O : Nat → Option Tag) (w' : World) (O' : Nat → Option Tag) : Prop := Kept (fun b => O b = none) w w' ∧ ∀ b, b < w.heap.size → O' b = O b
def SysPost (w : World) (O : Nat → Option Tag) (pw : Nat) (P' : Pow) (nv : Nat) (D' : Dev) (v : Value) (e : Ending) (w' : World) : Prop :=
  ∃ O', e = .returned v ∧ SysAt w' O' pw P' nv D' ∧ Ext w O w' O'

/-- what bears a tag in T is as it was, and bears it still -/
def Agree (T : Tag → Prop) (w : World) (O : Nat → Option Tag) (w' : World) (O' : Nat → Option Tag) : Prop :=
  ∀ b t, b < w.heap.size → O b = some t → T t → w'.heap[b]? = w.heap[b]? ∧ O' b = some t

section
variable {w w' w'' : World} {O O' O'' : Nat → Option Tag} {T : Tag → Prop} {pw nv d B : Nat} {P P' : Pow} {D D' : Dev} {dl : List Nat} {v : Value} {u : Und} {K : Nat → Prop}
theorem RI.wide {B B' : Nat} {A : Option Addr} {l : List Int} (h : RI w B A l) (hB : B ≤ B') : RI w B' A l := h.move (fun _ _ => rfl) hB
theorem RB.kept {A : Option Addr} {l : List UInt8} (h : RB w B A l) (hk : Kept K w w') (hA : l ≠ [] → ∀ ad, A = some ad → K ad.block) (hB : B ≤ w.heap.size) : RB w' B A l := fun k x hx => by
  obtain ⟨ad, e, hlt, hc⟩ := h k x hx
  exact ⟨ad, e, hlt, (World.cell?_of_block (w := w) (by rw [add_block]; exact hk.block _ (by omega) (hA (by intro e0; rw [e0] at hx; simp at hx) ad e))).trans hc⟩
theorem RI.keptN {A : Option Addr} {l : List Int} (h : RI w B A l) (hk : Kept K w w') (hA : l ≠ [] → ∀ ad, A = some ad → K ad.block) (hB : B ≤ w.heap.size) : RI w' B A l := by
  intro k x hx
  obtain ⟨ad, e, hlt, hc⟩ := h k x hx
  exact ⟨ad, e, hlt, (World.cell?_of_block (w := w) (by rw [add_block]; exact hk.block _ (by omega) (hA (by intro e0; rw [e0] at hx; simp at hx) ad e))).trans hc⟩
theorem Ext.refl (w : World) (O : Nat → Option Tag) : Ext w O w O := ⟨Kept.refl _ _, fun _ _ => rfl⟩
theorem Ext.trans (h : Ext w O w' O') (k : Ext w' O' w'' O'') : Ext w O w'' O'' := by
  refine ⟨⟨k.1.os.trans h.1.os, k.1.tape.trans h.1.tape, k.1.output.trans h.1.output, Nat.le_trans h.1.size k.1.size, fun b hb hO => ?_⟩, fun b hb => (k.2 b (Nat.lt_of_lt_of_le hb h.1.size)).trans (h.2 b hb)⟩
  exact (k.1.block b (Nat.lt_of_lt_of_le hb h.1.size) ((h.2 b hb).trans hO)).trans (h.1.block b hb hO)
theorem Kept.agree (hk : Kept K w w') (hK : ∀ b t, O b = some t → T t → K b) : Agree T w O w' O := fun b t hlt hb ht => ⟨hk.block b hlt (hK b t hb ht), hb⟩
theorem cell_lt {b i : Nat} {x : Value} (h : w.cell? ⟨b, i, none⟩ = some x) : b < w.heap.size := World.block_lt_of_cell? w ⟨b, i, none⟩ h
theorem cell_keep {b i : Nat} {x : Value} {t : Tag} (h : w.cell? ⟨b, i, none⟩ = some x) (ha : Agree T w O w' O') (hb : O b = some t) (ht : T t) : w'.cell? ⟨b, i, none⟩ = some x :=
  (World.cell?_of_block (w := w) (ha b t (cell_lt h) hb ht).1).trans h
theorem UndoAt.keep (h : UndoAt w O nv v u) (hf : ∀ b, O b ≠ none → b < w.heap.size) (hs : w.heap.size ≤ w'.heap.size) (ha : Agree T w O w' O') (ht : T .undo) : UndoAt w' O' nv v u := by
  obtain ⟨a7, a6, a3, a4, A, c, e, c7, c6, c3, c4, t7, t6, t3, t4, r, rt, rc⟩ := h
  refine ⟨a7, a6, a3, a4, A, c, e, cell_keep c7 ha t7 ht, cell_keep c6 ha t6 ht, cell_keep c3 ha t3 ht, cell_keep c4 ha t4 ht, (ha _ _ (cell_lt c7) t7 ht).2, (ha _ _ (cell_lt c6) t6 ht).2, (ha _ _ (cell_lt c3) t3 ht).2, (ha _ _ (cell_lt c4) t4 ht).2, ?_, fun ad he => (ha _ _ (hf _ (by rw [rt ad he]; simp)) (rt ad he) ht).2, rc⟩
  intro k x hx
  obtain ⟨ad, e, hlt, hc⟩ := r k x hx
  exact ⟨ad, e, by omega, (World.cell?_of_block (w := w) (by rw [add_block]; exact (ha _ _ hlt (rt ad e) ht).1)).trans hc⟩
theorem DevAt.keep (h : DevAt w O pw nv D) (hf : ∀ b, O b ≠ none → b < w.heap.size) (hs : w.heap.size ≤ w'.heap.size) (ha : Agree T w O w' O') (h1 : T .nv) (h2 : T .bytes) (h3 : T .undos) (h4 : T .undo) : DevAt w' O' pw nv D := by
  obtain ⟨bb, uv, vs, c1, t1, c2, t2, o1, o2, o3, o4⟩ := h
  obtain ⟨a1, a2⟩ := ha nv _ c1.lt t1 h1
  obtain ⟨a3, a4⟩ := ha bb _ c2.lt t2 h2
  refine ⟨bb, uv, vs, c1.move a1, a2, a3.trans c2, a4, o1.move fun g hg => (ha g _ (o1.ge g hg).2 (o2 g hg) h3).1, fun g hg => (ha g _ (o1.ge g hg).2 (o2 g hg) h3).2, o3, fun k u hu => ?_⟩
  obtain ⟨v, hv, hu2⟩ := o4 k u hu
  exact ⟨v, hv, hu2.keep hf hs ha h4⟩
theorem PowAt.keep (h : PowAt w O pw P dl) (hf : ∀ b, O b ≠ none → b < w.heap.size) (hs : w.heap.size ≤ w'.heap.size) (ha : Agree T w O w' O') (h1 : T .pw) (h2 : T .dev) (h3 : T .picks) : PowAt w' O' pw P dl := by
  obtain ⟨dv, A, c, c1, t1, o1, o2, r1, r2, r3, r4⟩ := h
  obtain ⟨a1, a2⟩ := ha pw _ c1.lt t1 h1
  refine ⟨dv, A, c, c1.move a1, a2, o1.move fun g hg => (ha g _ (o1.ge g hg).2 (o2 g hg) h2).1, fun g hg => (ha g _ (o1.ge g hg).2 (o2 g hg) h2).2, ?_, fun ad he => (ha _ _ (hf _ (by rw [r2 ad he]; simp)) (r2 ad he) h3).2, r3, r4⟩
  intro k x hx
  obtain ⟨ad, e, hlt, hc⟩ := r1 k x hx
  exact ⟨ad, e, by omega, (World.cell?_of_block (w := w) (by rw [add_block]; exact (ha _ _ hlt (r2 ad e) h3).1)).trans hc⟩
theorem SysAt.kept (h : SysAt w O pw P nv D) (hk : Kept (fun b => O b ≠ none) w w') : SysAt w' O pw P nv D := by
  have ha : Agree (fun _ => True) w O w' O := hk.agree fun b t hb _ => by rw [hb]; simp
  exact ⟨fun b hb => Nat.lt_of_lt_of_le (h.fresh b hb) hk.size, h.dev.keep h.fresh hk.size ha trivial trivial trivial trivial, h.ok, h.pow.keep h.fresh hk.size ha trivial trivial trivial⟩
theorem SysAt.drewN (h : SysAt w O pw P nv D) (n : Nat) : SysAt (w.drewN n) O pw P nv D := h.kept ((Kept.refl _ w).drewN n)
theorem SysAt.alloc (h : SysAt w O pw P nv D) (o : Obj) : SysAt (w.alloc o) O pw P nv D := h.kept ((Kept.refl _ w).alloc o)
theorem SysAt.free (h : SysAt w O pw P nv D) {b : Nat} (hb : w.heap.size ≤ b) : O b = none := by
  rcases hO : O b with _ | t
  · rfl
  · have := h.fresh b (by rw [hO]; simp)
    omega
/-- what the device's cells are -/
theorem SysAt.cells (h : SysAt w O pw P nv D) : w.cell? ⟨nv, 0, none⟩ = some (.pointer (some ⟨pw, 0, none⟩)) ∧ (∃ bb, w.cell? ⟨nv, 1, none⟩ = some (.slice (some ⟨bb, 0, none⟩) D.mem.length D.mem.length)) ∧ w.cell? ⟨nv, 3, none⟩ = some (.int .i64 (D.pending : Int)) := by
  obtain ⟨bb, uv, vs, c1, _⟩ := h.dev
  exact ⟨c1.cell rfl, ⟨bb, c1.cell rfl⟩, c1.cell rfl⟩
end
end Go.Proofs.YtkjogkmdldplgaaDoor

/-
  The small methods of the device and the power.
-/
namespace Go.Proofs.YtkjogkmdldplgaaDoor
open Go.RowKit

def hasB (N : Nat) (at_ n : Int) : Bool := decide (0 ≤ at_ ∧ 0 ≤ n ∧ n ≤ (N : Int) - at_)
section
set_option maxRecDepth 20000
set_option maxHeartbeats 1000000
theorem off_any (pw : Nat) (b : Bool) (w : World) (h : w.cell? ⟨pw, 1, none⟩ = some (.bool b)) :
    Calls Tryd.prog 32 #[.pointer (some ⟨pw, 0, none⟩)] w fun e w' => e = .returned (.bool b) ∧ w = w' := by
  go_enter Tryd.func32, Tryd.ntmps32
  go_wp2_with fail
  go_ret
  exact ⟨rfl, rfl⟩
theorem size_any (nv N : Nat) (A : Option Addr) (c : Nat) (w : World) (h : w.cell? ⟨nv, 1, none⟩ = some (.slice A N c)) :
    Calls Tryd.prog 36 #[.pointer (some ⟨nv, 0, none⟩)] w fun e w' => e = .returned (.int .i64 (N : Int)) ∧ w = w' := by
  go_enter Tryd.func36, Tryd.ntmps36
  go_wp2_with fail
  go_ret
  exact ⟨rfl, rfl⟩
theorem has_any (nv N : Nat) (A : Option Addr) (c : Nat) (at_ n : Int) (w : World) (h : w.cell? ⟨nv, 1, none⟩ = some (.slice A N c)) (hN : N ≤ 67108864) (ha : at_ ≤ 9223372036854775807) :
    Calls Tryd.prog 33 #[.pointer (some ⟨nv, 0, none⟩), .int .i64 at_, .int .i64 n] w fun e w' => e = .returned (.bool (hasB N at_ n)) ∧ w = w' := by
  have hN' : (N : Int) ≤ 67108864 := by omega
  by_cases h0 : 0 ≤ at_
  case neg =>
    have e : hasB N at_ n = false := decide_eq_false (fun q => h0 q.1)
    rw [e]
    have h0' : at_ < 0 := by omega
    clear h0 e
    go_enter Tryd.func33, Tryd.ntmps33
    go_wp2_with fail
    go_ret
    exact ⟨rfl, rfl⟩
  by_cases h1 : 0 ≤ n
  case neg =>
    have e : hasB N at_ n = false := decide_eq_false (fun q => h1 q.2.1)
    rw [e]
    have h1' : n < 0 := by omega
    clear h1 e
    go_enter Tryd.func33, Tryd.ntmps33
    go_wp2_with fail
    go_ret
    exact ⟨rfl, rfl⟩
  have hw : IntKind.i64.wrap ((N : Int) - at_) = (N : Int) - at_ := IntWalk.i64_in _ (by omega)
  by_cases h2 : n ≤ (N : Int) - at_
  · have e : hasB N at_ n = true := decide_eq_true ⟨h0, h1, h2⟩
    rw [e]
    clear e
    go_enter Tryd.func33, Tryd.ntmps33
    go_wp2_with fail
    go_ret
    exact ⟨by simp [h2], rfl⟩
  · have e : hasB N at_ n = false := decide_eq_false (fun q => h2 q.2.2)
    rw [e]
    have h2' : (N : Int) - at_ < n := by omega
    clear e h2
    go_enter Tryd.func33, Tryd.ntmps33
    go_wp2_with fail
    go_ret
    exact ⟨by simp [h2'], rfl⟩

def Dev.settle (D : Dev) : Dev := { D with undos := [], pending := 0 }
theorem Dev.Ok.settle {D : Dev} (h : D.Ok) : D.settle.Ok := ⟨h.low, h.high, fun u hu => by simp [Dev.settle] at hu, fun u hu => by simp [Dev.settle] at hu, fun u hu => by simp [Dev.settle] at hu, Nat.zero_le _⟩
theorem SysAt.settled {w : World} {O : Nat → Option Tag} {pw nv : Nat} {P : Pow} {D : Dev} (h : SysAt w O pw P nv D) :
    SysAt ((w.setCell ⟨nv, 2, none⟩ (.slice none 0 0)).setCell ⟨nv, 3, none⟩ (.int .i64 0)) O pw P nv D.settle ∧ Ext w O ((w.setCell ⟨nv, 2, none⟩ (.slice none 0 0)).setCell ⟨nv, 3, none⟩ (.int .i64 0)) O := by
  obtain ⟨bb, uv, vs, c1, t1, c2, t2, o1, o2, o3, o4⟩ := h.dev
  have hk : Kept (fun b => b ≠ nv) w ((w.setCell ⟨nv, 2, none⟩ (.slice none 0 0)).setCell ⟨nv, 3, none⟩ (.int .i64 0)) := ((Kept.refl _ w).setCell (fun h => h rfl) _).setCell (fun h => h rfl) _
  have ha : Agree (fun t => t ≠ .nv) w O ((w.setCell ⟨nv, 2, none⟩ (.slice none 0 0)).setCell ⟨nv, 3, none⟩ (.int .i64 0)) O := hk.agree fun b t hb ht e => ht (by rw [e, t1] at hb; cases hb; rfl)
  refine ⟨⟨fun b hb => Nat.lt_of_lt_of_le (h.fresh b hb) hk.size, ⟨bb, .slice none 0 0, [], (c1.set 2 _).set 3 _, t1, (hk.block bb c2.lt (fun e => by rw [e, t1] at t2; cases t2)).trans c2, t2, OwnV.nil _ _ _, (fun g hg => by cases hg), rfl, fun k u hu => by simp [Dev.settle] at hu⟩, h.ok.settle, h.pow.keep h.fresh hk.size ha (by intro e; cases e) (by intro e; cases e) (by intro e; cases e)⟩, ⟨hk.mono (fun b _ hb e => by rw [e, t1] at hb; cases hb), fun _ _ => rfl⟩⟩
theorem settle_any (pw nv : Nat) (P : Pow) (D : Dev) (O : Nat → Option Tag) (w : World) (h : SysAt w O pw P nv D) :
    Calls Tryd.prog 61 #[.pointer (some ⟨nv, 0, none⟩)] w (SysPost w O pw P nv D.settle (.tuple #[])) := by
  obtain ⟨q1, q2⟩ := h.settled
  have Hq : Hid (SysPost w O pw P nv D.settle (.tuple #[]) (.returned (.tuple #[])) ((w.setCell ⟨nv, 2, none⟩ (.slice none 0 0)).setCell ⟨nv, 3, none⟩ (.int .i64 0))) := ⟨O, rfl, q1, q2⟩
  obtain ⟨bb, uv, vs, c1, _⟩ := h.dev
  have k2 := c1.cell (i := 2) rfl
  have k3 := c1.cell (i := 3) rfl
  have f2 := c1.frozen 2
  have f3 := c1.frozen 3
  clear h q1 q2 c1
  go_enter Tryd.func61, Tryd.ntmps61
  go_wp2_with fail
  go_end0
  exact Hq.out

/-- what a read tells -/
def readCode (P : Pow) (N : Nat) (at_ n : Int) : Nat := if P.off then 8 else if hasB N at_ n then 0 else 1
def readBytes (P : Pow) (mem : List UInt8) (at_ n : Int) : List UInt8 := if readCode P mem.length at_ n = 0 then (mem.drop at_.toNat).take n.toNat else []
def ReadPost (w : World) (l : List UInt8) (c : Nat) (e : Ending) (w' : World) : Prop := ∃ v, e = .returned (.tuple #[v, .int .i64 (c : Int)]) ∧ Own w' w.heap.size v l ∧ Below w.heap.size w w'
theorem read_any (pw nv : Nat) (P : Pow) (D : Dev) (O : Nat → Option Tag) (at_ n : Int) (w : World) (h : SysAt w O pw P nv D) (ha : at_ ≤ 9223372036854775807) :
    Calls Tryd.prog 14 #[.pointer (some ⟨nv, 0, none⟩), .int .i64 at_, .int .i64 n] w (ReadPost w (readBytes P D.mem at_ n) (readCode P D.mem.length at_ n)) := by
  obtain ⟨bb, uv, vs, c1, t1, c2, _⟩ := h.dev
  obtain ⟨dv, Ap, cp, p1, _⟩ := h.pow
  have k0 := c1.cell (i := 0) rfl
  have k1 := c1.cell (i := 1) rfl
  have Ho := Lib.hid (off_any pw P.off w (p1.cell rfl))
  have hN := h.ok.high
  have hN' : (D.mem.length : Int) ≤ 67108864 := by omega
  by_cases hoff : P.off = true
  · have e1 : readCode P D.mem.length at_ n = 8 := by unfold readCode; rw [if_pos hoff]
    have e2 : readBytes P D.mem at_ n = [] := by unfold readBytes; rw [e1]; rfl
    rw [e1, e2]
    rw [hoff] at Ho
    have Hs : Hid (ReadPost w [] 8 (.returned (.tuple #[.slice none 0 0, .int .i64 8])) w) := ⟨_, rfl, Own.nil _ _, Below.refl _ _⟩
    clear h c1 c2 p1 k1 hoff e1 e2
    go_enter Tryd.func14, Tryd.ntmps14
    go_wp2_with (go_at_call 32; refine Ho.out.mono ?_; rintro e w1 ⟨rfl, rfl⟩)
    go_ret2
    exact Hs.out
  have hoff' : P.off = false := by simpa using hoff
  rw [hoff'] at Ho
  have Hh := Lib.hid (has_any nv D.mem.length _ _ at_ n w k1 hN ha)
  by_cases hh : hasB D.mem.length at_ n = true
  case neg =>
    have hh' : hasB D.mem.length at_ n = false := by simpa using hh
    have e1 : readCode P D.mem.length at_ n = 1 := by unfold readCode; rw [hoff', hh']; rfl
    have e2 : readBytes P D.mem at_ n = [] := by unfold readBytes; rw [e1]; rfl
    rw [e1, e2]
    rw [hh'] at Hh
    have Hs : Hid (ReadPost w [] 1 (.returned (.tuple #[.slice none 0 0, .int .i64 1])) w) := ⟨_, rfl, Own.nil _ _, Below.refl _ _⟩
    clear h c1 c2 p1 k1 hoff e1 e2 hh hh'
    go_enter Tryd.func14, Tryd.ntmps14
    go_wp2_with (first | (go_at_call 32; refine Ho.out.mono ?_; rintro e w1 ⟨rfl, rfl⟩) | (go_at_call 33; refine Hh.out.mono ?_; rintro e w1 ⟨rfl, rfl⟩))
    go_ret2
    exact Hs.out
  have e1 : readCode P D.mem.length at_ n = 0 := by unfold readCode; rw [hoff', hh]; rfl
  obtain ⟨q0, q1, q2⟩ := of_decide_eq_true hh
  obtain ⟨a, rfl⟩ : ∃ a : Nat, at_ = (a : Int) := ⟨at_.toNat, by omega⟩
  obtain ⟨m, rfl⟩ : ∃ m : Nat, n = (m : Int) := ⟨n.toNat, by omega⟩
  have e2 : readBytes P D.mem (a : Int) (m : Int) = (D.mem.drop a).take m := by unfold readBytes; rw [if_pos e1]; rfl
  rw [e1, e2]
  rw [hh] at Hh
  have hlen : ((D.mem.drop a).take m).length = m := by simp; omega
  have Hcl : Hid (∀ (A : Option Addr) c, (m = 0 ∨ A = some ⟨bb, a, none⟩) → Calls Tryd.prog 34 #[.slice A m c] w fun e w' => ∃ v, e = .returned v ∧ Own w' w.heap.size v ((D.mem.drop a).take m) ∧ Below w.heap.size w w') := by
    intro A c hA
    have hr : RB w w.heap.size A ((D.mem.drop a).take m) := by
      rcases hA with rfl | rfl
      · simp only [List.take_zero]
        exact RB.nil _ _ _
      · exact ((c2.rb a).take m).wide c2.lt
    have := clone_any A c ((D.mem.drop a).take m) w w.heap.size hr (Nat.le_refl _) (by omega)
    rw [hlen] at this
    exact this
  have ham : (a : Int) + (m : Int) ≤ (D.mem.length : Int) := by omega
  have ha0 : (a : Int) ≤ (D.mem.length : Int) := by omega
  generalize (D.mem.drop a).take m = l at *
  generalize D.mem.length = N at *
  clear h c1 c2 p1 hoff e1 e2 hh q0 q1 q2 hlen hoff'
  go_enter Tryd.func14, Tryd.ntmps14
  go_wp2_with (first | (go_at_call 32; refine Ho.out.mono ?_; rintro e w1 ⟨rfl, rfl⟩) | (go_at_call 33; refine Hh.out.mono ?_; rintro e w1 ⟨rfl, rfl⟩))
  all_goals
    refine (Hcl.out _ _ (by first | exact .inr rfl | exact .inl (by omega))).mono ?_
    rintro e w1 ⟨v, rfl, hv, hb⟩
    have Hv := Lib.hid hv
    have Hb := Lib.hid hb
    clear hv hb
    go_wp2_with fail
    go_ret2
    exact ⟨v, rfl, Hv.out, Hb.out⟩
end
end Go.Proofs.YtkjogkmdldplgaaDoor
