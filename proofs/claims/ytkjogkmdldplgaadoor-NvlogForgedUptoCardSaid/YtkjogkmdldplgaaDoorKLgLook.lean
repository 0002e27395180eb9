/-
  The bounds as a log tells them; its room, its length, its next number.
-/
import Derived.Test.YtkjogkmdldplgaaDoorKLgSettle
namespace Go.Proofs.YtkjogkmdldplgaaDoor
open Go.RowKit

def roomV (R u : Nat) : Int := max ((R : Int) - (u : Int) - 4) (-1)
/-- what the log is behind a look -/
def LookPost (w : World) (lb nv R : Nat) (b : Bd) (v : Value) (e : Ending) (w' : World) : Prop := e = .returned v ∧ LogK w' lb nv R b ∧ Kept (fun x => x ≠ lb) w w'
section
set_option maxRecDepth 20000
set_option maxHeartbeats 4000000
theorem look_any (pw nv lb R : Nat) (P : Pow) (D : Dev) (O : Nat → Option Tag) (b : Bd) (rs : List (List UInt8)) (w : World) (h : SysAt w O pw P nv D) (hoff : P.off = false) (hl : LogC w lb nv R) (hR : R = D.mem.length - 57) (hh : Holds D.mem b rs) :
    Calls Tryd.prog 22 #[.pointer (some ⟨lb, 0, none⟩)] w (LookPost w lb nv R b (bdV b)) := by
  obtain ⟨w0, hw0⟩ : ∃ w0, w0 = w.alloc (.cells #[.int .u64 0, .int .u64 0, .int .i64 0, .int .i64 0] 62) := ⟨_, rfl⟩
  have hb0 : Below w.heap.size w w0 := by rw [hw0]; exact (Below.refl _ w).alloc (Nat.le_refl _) _
  have hc0 : Cells w0 w.heap.size 62 [.int .u64 0, .int .u64 0, .int .i64 0, .int .i64 0] := by rw [hw0]; exact Cells.new w #[.int .u64 0, .int .u64 0, .int .i64 0, .int .i64 0] _
  have hl0 := hl.move (hb0.block lb hl.lt)
  have k0 : (w.alloc (.cells #[.int .u64 0, .int .u64 0, .int .i64 0, .int .i64 0] 62)).cell? ⟨lb, 0, none⟩ = some (.pointer (some ⟨nv, 0, none⟩)) := by rw [← hw0]; exact hl0.cell0
  have Hb : Hid (Calls Tryd.prog 29 #[.pointer (some ⟨lb, 0, none⟩)] w0 fun e w' => e = .returned (.tuple #[.agg #[.int .u64 (b.first : Int), .int .u64 (b.next : Int), .int .i64 (b.at_ : Int), .int .i64 (b.used : Int)], .nilIface]) ∧ Below w0.heap.size w0 w') := bounds_any pw nv lb R P D O b rs w0 (h.below hb0) hoff hl0 hR hh
  have Hs := Lib.hid (And.intro hb0 (And.intro hc0 (And.intro hl0 hl.lt)))
  clear hb0 hc0 hl0 h hh hl hR hoff
  unfold bdV
  go_enter Tryd.func22, Tryd.ntmps22
  go_wp2_with fail
  rw [← hw0]
  clear hw0
  refine Hb.out.mono ?_
  rintro e w1 ⟨rfl, hb1⟩
  have Hb1 := Lib.hid hb1
  clear hb1 Hb k0
  have hlb : lb < w.heap.size := Hs.out.2.2.2
  have H1 : Hid (∀ (o : Obj), Cells (w1.alloc o) w.heap.size 62 [.int .u64 0, .int .u64 0, .int .i64 0, .int .i64 0] ∧ (∃ v1 v2 v3 v4, Cells (w1.alloc o) lb 77 [.pointer (some ⟨nv, 0, none⟩), .int .i64 (R : Int), v1, v2, v3, v4]) ∧ Below w.heap.size w (w1.alloc o)) := by
    intro o
    obtain ⟨hb0, hc0, hl0, _⟩ := Hs.out
    have hb1 := Hb1.out
    obtain ⟨v1, v2, v3, v4, hc⟩ := hl0.move (hb1.block lb hl0.lt)
    exact ⟨(hc0.move (hb1.block _ hc0.lt)).alloc o, ⟨v1, v2, v3, v4, hc.alloc o⟩, (hb0.trans (hb1.mono hb0.size)).alloc (Nat.le_trans hb0.size hb1.size) o⟩
  go_upto_region 4 with fail
  obtain ⟨w2, hw2⟩ : ∃ w2, w2 = w1.alloc (.cells #[.int .u64 (b.first : Int), .int .u64 (b.next : Int), .int .i64 (b.at_ : Int), .int .i64 (b.used : Int)] 62) := ⟨_, rfl⟩
  have h2 := H1.out (.cells #[.int .u64 (b.first : Int), .int .u64 (b.next : Int), .int .i64 (b.at_ : Int), .int .i64 (b.used : Int)] 62)
  have h5 : Cells w2 w1.heap.size 62 (bdL b) := by rw [hw2]; exact Cells.new w1 #[.int .u64 (b.first : Int), .int .u64 (b.next : Int), .int .i64 (b.at_ : Int), .int .i64 (b.used : Int)] _
  rw [← hw2] at h2 ⊢
  clear hw2 H1 Hb1
  obtain ⟨hc0, ⟨v1, v2, v3, v4, hlc⟩, hb2⟩ := h2
  obtain ⟨p0, p1, p2, p3⟩ := BoxAt.four (b := b) h5
  have g2 := hlc.cell (i := 2) rfl
  have g3 := hlc.cell (i := 3) rfl
  have g4 := hlc.cell (i := 4) rfl
  have g5 := hlc.cell (i := 5) rfl
  have f2 := hlc.frozen 2
  have f3 := hlc.frozen 3
  have f4 := hlc.frozen 4
  have f5 := hlc.frozen 5
  have d0 := hc0.cell (i := 0) rfl
  have d1 := hc0.cell (i := 1) rfl
  have d2 := hc0.cell (i := 2) rfl
  have d3 := hc0.cell (i := 3) rfl
  have e0 := hc0.frozen 0
  have e1 := hc0.frozen 1
  have e2 := hc0.frozen 2
  have e3 := hc0.frozen 3
  have hne : ¬ lb = w.heap.size := by omega
  have hne2 : ¬ w.heap.size = lb := by omega
  have Hc := Lib.hid (And.intro hc0 (And.intro hlc hb2))
  clear hc0 hlc hb2 h5
  go_upto_region 6 with fail
  clear g2 g3 g4 g5 f2 f3 f4 f5 p0 p1 p2 p3 d0 d1 d2 d3 e0 e1 e2 e3
  obtain ⟨w3, hw3⟩ : ∃ w3, w3 = (((w2.setCell ⟨lb, 2, none⟩ (.int .u64 (b.first : Int))).setCell ⟨lb, 3, none⟩ (.int .u64 (b.next : Int))).setCell ⟨lb, 4, none⟩ (.int .i64 (b.at_ : Int))).setCell ⟨lb, 5, none⟩ (.int .i64 (b.used : Int)) := ⟨_, rfl⟩
  have hk3 : LogK w3 lb nv R b := by rw [hw3]; exact (((Hc.out.2.1.set 2 (.int .u64 (b.first : Int))).set 3 (.int .u64 (b.next : Int))).set 4 (.int .i64 (b.at_ : Int))).set 5 (.int .i64 (b.used : Int))
  have hkk : Kept (fun x => x ≠ lb) w2 w3 := by rw [hw3]; exact ((((Kept.refl _ w2).setCell (fun h => h rfl) _).setCell (fun h => h rfl) _).setCell (fun h => h rfl) _).setCell (fun h => h rfl) _
  rw [← hw3]
  clear hw3
  have hc0 : Cells w3 w.heap.size 62 [.int .u64 0, .int .u64 0, .int .i64 0, .int .i64 0] := Hc.out.1.move (hkk.block _ Hc.out.1.lt (by omega))
  have hk2 : Kept (fun x => x ≠ lb) w w3 := (Below.kept Hc.out.2.2 _).trans hkk
  have Hend : Hid (∀ W, W = (((w3.setCell ⟨w.heap.size, 0, none⟩ (.int .u64 (b.first : Int))).setCell ⟨w.heap.size, 1, none⟩ (.int .u64 (b.next : Int))).setCell ⟨w.heap.size, 2, none⟩ (.int .i64 (b.at_ : Int))).setCell ⟨w.heap.size, 3, none⟩ (.int .i64 (b.used : Int)) → LogK W lb nv R b ∧ Kept (fun x => x ≠ lb) w W ∧ Cells W w.heap.size 62 (bdL b)) := by
    rintro W rfl
    have hkb : Kept (fun x => x ≠ w.heap.size) w3 ((((w3.setCell ⟨w.heap.size, 0, none⟩ (.int .u64 (b.first : Int))).setCell ⟨w.heap.size, 1, none⟩ (.int .u64 (b.next : Int))).setCell ⟨w.heap.size, 2, none⟩ (.int .i64 (b.at_ : Int))).setCell ⟨w.heap.size, 3, none⟩ (.int .i64 (b.used : Int))) := ((((Kept.refl _ w3).setCell (fun h => h rfl) _).setCell (fun h => h rfl) _).setCell (fun h => h rfl) _).setCell (fun h => h rfl) _
    refine ⟨hk3.move (hkb.block lb hk3.lt (by omega)), ⟨hkb.os.trans hk2.os, hkb.tape.trans hk2.tape, hkb.output.trans hk2.output, Nat.le_trans hk2.size hkb.size, fun x hx hn => (hkb.block x (Nat.lt_of_lt_of_le hx hk2.size) (by omega)).trans (hk2.block x hx hn)⟩, ?_⟩
    exact (((hc0.set 0 (.int .u64 (b.first : Int))).set 1 (.int .u64 (b.next : Int))).set 2 (.int .i64 (b.at_ : Int))).set 3 (.int .i64 (b.used : Int))
  have g2 : w3.cell? ⟨lb, 2, none⟩ = some (.int .u64 (b.first : Int)) := hk3.cell rfl
  have g3 : w3.cell? ⟨lb, 3, none⟩ = some (.int .u64 (b.next : Int)) := hk3.cell rfl
  have g4 : w3.cell? ⟨lb, 4, none⟩ = some (.int .i64 (b.at_ : Int)) := hk3.cell rfl
  have g5 : w3.cell? ⟨lb, 5, none⟩ = some (.int .i64 (b.used : Int)) := hk3.cell rfl
  have d0 := hc0.cell (i := 0) rfl
  have d1 := hc0.cell (i := 1) rfl
  have d2 := hc0.cell (i := 2) rfl
  have d3 := hc0.cell (i := 3) rfl
  have e0 := hc0.frozen 0
  have e1 := hc0.frozen 1
  have e2 := hc0.frozen 2
  have e3 := hc0.frozen 3
  clear hk3 hkk hc0 hk2 Hc hlb hne hne2
  go_wp2_with fail
  obtain ⟨W, hW⟩ : ∃ W, W = (((w3.setCell ⟨w.heap.size, 0, none⟩ (.int .u64 (b.first : Int))).setCell ⟨w.heap.size, 1, none⟩ (.int .u64 (b.next : Int))).setCell ⟨w.heap.size, 2, none⟩ (.int .i64 (b.at_ : Int))).setCell ⟨w.heap.size, 3, none⟩ (.int .i64 (b.used : Int)) := ⟨_, rfl⟩
  rw [← hW]
  obtain ⟨t1, t2, t3⟩ := Hend.out W hW
  obtain ⟨q0, q1, q2, q3⟩ := BoxAt.four (b := b) t3
  exact bodyPost_ret (v := bdV b) (by simp [results, Tryd.results22, go_sem, q0, q1, q2, q3, bdV]) rfl ⟨rfl, t1, t2⟩

theorem room_any (lb nv R : Nat) (b : Bd) (w : World) (hl : LogC w lb nv R) (hR : R ≤ 67108864) (hu : b.used ≤ 67108864) :
    Calls Tryd.prog 21 #[.pointer (some ⟨lb, 0, none⟩), bdV b] w fun e w' => e = .returned (.int .i64 (roomV R b.used)) ∧ Below w.heap.size w w' := by
  have k1 : (w.alloc (.cells #[.int .u64 (b.first : Int), .int .u64 (b.next : Int), .int .i64 (b.at_ : Int), .int .i64 (b.used : Int)] 62)).cell? ⟨lb, 1, none⟩ = some (.int .i64 (R : Int)) := (hl.move (Below.heap_alloc w _ lb hl.lt)).cell1
  have k2 : (w.alloc (.cells #[.int .u64 (b.first : Int), .int .u64 (b.next : Int), .int .i64 (b.at_ : Int), .int .i64 (b.used : Int)] 62)).cell? ⟨w.heap.size, 3, none⟩ = some (.int .i64 (b.used : Int)) := (Cells.new w #[.int .u64 (b.first : Int), .int .u64 (b.next : Int), .int .i64 (b.at_ : Int), .int .i64 (b.used : Int)] _).cell rfl
  have Hb : Hid (∀ n, Below w.heap.size w ((w.alloc (.cells #[.int .u64 (b.first : Int), .int .u64 (b.next : Int), .int .i64 (b.at_ : Int), .int .i64 (b.used : Int)] 62)).drewN n)) := fun n => drewN_below ((Below.refl _ w).alloc (Nat.le_refl _) _) n
  have h1 : (R : Int) ≤ 67108864 := by omega
  have h2 : (b.used : Int) ≤ 67108864 := by omega
  by_cases hm : (R : Int) - (b.used : Int) - 4 < -1
  · have e : roomV R b.used = -1 := by unfold roomV; omega
    rw [e]
    clear e hl hR hu
    unfold bdV
    go_enter Tryd.func21, Tryd.ntmps21
    go_wp2_with fail
    go_region
    all_goals
      go_wp2_with fail
      go_ret
      exact ⟨rfl, Hb.out 1⟩
  · have e : roomV R b.used = (R : Int) - (b.used : Int) - 4 := by unfold roomV; omega
    rw [e]
    have hm' : -1 ≤ (R : Int) - (b.used : Int) - 4 := by omega
    clear e hl hR hu hm
    unfold bdV
    go_enter Tryd.func21, Tryd.ntmps21
    go_wp2_with fail
    go_region
    all_goals
      go_wp2_with fail
      go_ret
      exact ⟨rfl, Hb.out 1⟩
end
end Go.Proofs.YtkjogkmdldplgaaDoor

/-
  Room, Len, Next.
-/
namespace Go.Proofs.YtkjogkmdldplgaaDoor
open Go.RowKit

theorem LookPost.below {w w1 w' : World} {lb nv R : Nat} {b : Bd} (h1 : LogK w1 lb nv R b) (h2 : Kept (fun x => x ≠ lb) w w1) (hlb : lb < w.heap.size) (hb : Below w1.heap.size w1 w') {v : Value} : LookPost w lb nv R b v (.returned v) w' :=
  ⟨rfl, h1.move (hb.block lb (Nat.lt_of_lt_of_le hlb h2.size)), h2.below hb⟩
section
set_option maxRecDepth 20000
set_option maxHeartbeats 4000000
variable (pw nv lb R : Nat) (P : Pow) (D : Dev) (O : Nat → Option Tag) (b : Bd) (rs : List (List UInt8)) (w : World) (h : SysAt w O pw P nv D) (hoff : P.off = false) (hl : LogC w lb nv R) (hR : R = D.mem.length - 57) (hh : Holds D.mem b rs)
include h hoff hl hR hh
theorem Room_any : Calls Tryd.prog 9 #[.pointer (some ⟨lb, 0, none⟩)] w (LookPost w lb nv R b (.int .i64 (roomV R b.used))) := by
  have Hl := Lib.hid (look_any pw nv lb R P D O b rs w h hoff hl hR hh)
  have hlt := hl.lt
  have Hr : Hid (∀ w1, LogK w1 lb nv R b → Calls Tryd.prog 21 #[.pointer (some ⟨lb, 0, none⟩), bdV b] w1 fun e w' => e = .returned (.int .i64 (roomV R b.used)) ∧ Below w1.heap.size w1 w') := fun w1 h1 =>
    room_any lb nv R b w1 h1.logC (by have := hh.high; omega) (by have := hh.used; have := hh.high; omega)
  clear h hoff hl hR hh
  go_enter Tryd.func9, Tryd.ntmps9
  go_wp2_with fail
  refine Hl.out.mono ?_
  rintro e w1 ⟨rfl, h1, h2⟩
  have Hr1 := Lib.hid (Hr.out w1 h1)
  have Hk := Lib.hid (And.intro h1 h2)
  clear h1 h2
  unfold bdV at Hr1 ⊢
  go_wp2_with fail
  refine Hr1.out.mono ?_
  rintro e w2 ⟨rfl, h3⟩
  have Hp := Lib.hid (LookPost.below (v := .int .i64 (roomV R b.used)) Hk.out.1 Hk.out.2 hlt h3)
  clear h3
  go_wp2_with fail
  go_ret
  exact Hp.out
theorem Next_any : Calls Tryd.prog 17 #[.pointer (some ⟨lb, 0, none⟩)] w (LookPost w lb nv R b (.int .u64 (b.next : Int))) := by
  have Hl := Lib.hid (look_any pw nv lb R P D O b rs w h hoff hl hR hh)
  clear h hoff hl hR hh
  go_enter Tryd.func17, Tryd.ntmps17
  go_wp2_with fail
  refine Hl.out.mono ?_
  rintro e w1 ⟨rfl, h1, h2⟩
  have Hk := Lib.hid (And.intro h1 h2)
  clear h1 h2
  unfold bdV
  have hfd : ∀ W : World, (Instr.field 62 (.agg #[.int .u64 (b.first : Int), .int .u64 (b.next : Int), .int .i64 (b.at_ : Int), .int .i64 (b.used : Int)]) 1).run Tryd.prog W = .ok (.int .u64 (b.next : Int)) W := fun _ => by kernel_rfl
  go_wp2_with fail
  go_ret
  exact ⟨rfl, Hk.out⟩
theorem Len_any : Calls Tryd.prog 10 #[.pointer (some ⟨lb, 0, none⟩)] w (LookPost w lb nv R b (.int .i64 (rs.length : Int))) := by
  have Hl := Lib.hid (look_any pw nv lb R P D O b rs w h hoff hl hR hh)
  have hlt := hl.lt
  have hcnt := hh.cnt
  have hnx := hh.nx
  have hw1 : IntKind.u64.wrap ((b.next : Int) - (b.first : Int)) = (rs.length : Int) := by rw [IntKind.wrap_u64]; omega
  have hw2 : IntKind.i64.wrap (rs.length : Int) = (rs.length : Int) := IntWalk.i64_in _ (by omega)
  clear h hoff hl hR hh hcnt hnx
  generalize rs.length = L at *
  go_enter Tryd.func10, Tryd.ntmps10
  go_wp2_with fail
  refine Hl.out.mono ?_
  rintro e w1 ⟨rfl, h1, h2⟩
  have Hp : Hid (LookPost w lb nv R b (.int .i64 (L : Int)) (.returned (.int .i64 (L : Int))) (w1.alloc (.cells #[.int .u64 (b.first : Int), .int .u64 (b.next : Int), .int .i64 (b.at_ : Int), .int .i64 (b.used : Int)] 62))) :=
    LookPost.below h1 h2 hlt ((Below.refl _ w1).alloc (Nat.le_refl _) _)
  clear h1 h2
  unfold bdV
  go_wp2_with fail
  go_ret
  exact Hp.out
end
end Go.Proofs.YtkjogkmdldplgaaDoor
