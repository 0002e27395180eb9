/-
  A power, a drive that hangs on it, a write that is armed.
-/
import Derived.Test.YtdnlikhfemhmeaaZChange
namespace Go.Proofs.Ytdnlikhfemhmeaa
open Go.RowKit

def noOwner : Nat → Option Tag := fun _ => none
def Pow.new : Pow := ⟨false, 0, 0, []⟩
def Drv.new (zones cap size : Nat) : Drv := ⟨List.replicate zones ⟨[], 0⟩, cap, size, false⟩
theorem Drv.new_ok {zones cap size : Nat} (hz : zones ≤ 4096) (hc : cap ≤ 4096) (h1 : 32 ≤ size) (h2 : size ≤ 65536) : (Drv.new zones cap size).Ok := by
  refine ⟨by simp [Drv.new]; exact hz, hc, h1, h2, fun p hp => ?_, fun p hp => ?_, fun p hp l hl => ?_, fun h => by simp [Drv.new] at h⟩
  all_goals
    have := List.eq_of_mem_replicate hp
    subst this
    simp at *

set_option maxRecDepth 20000 in
theorem newPower_any (w : World) : Calls Try.prog 8 #[] w fun e w' => e = .returned (.pointer (some ⟨w.heap.size, 0, none⟩)) ∧
    SysAt w' (fun b => if b = w.heap.size then some .pw else none) w.heap.size Pow.new [] ∧ Below w.heap.size w w' := by
  have Hs : Hid (SysAt (w.alloc (.cells #[.slice none 0 0, .bool false, .int .i64 0, .int .i64 0, .slice none 0 0] 68)) (fun b => if b = w.heap.size then some .pw else none) w.heap.size Pow.new []) := by
    refine ⟨fun b hb => ?_, fun i d D hi => by simp at hi, ?_⟩
    · by_cases e : b = w.heap.size
      · subst e; simp
      · simp [e] at hb
    · exact ⟨.slice none 0 0, none, 0, Cells.new w _ _, if_pos rfl, OwnV.nil _ _ _, (fun g hg => by cases hg), RI.nil _ _ _, (fun ad h => by cases h), Nat.le_refl _, Nat.zero_le _⟩
  go_enter Try.func8, Try.ntmps8
  go_wp2_with fail
  go_ret
  exact ⟨rfl, Hs.out, (Below.refl _ _).alloc (Nat.le_refl _) _⟩

theorem info_dev : (Try.prog.info? 98).map (fun i => (i.zero, i.size, i.bytes)) = some (some .nilIface, 1, 16) := by kernel_rfl
theorem info_pile : (Try.prog.info? 91).map (fun i => (i.zero, i.size, i.bytes)) = some (some (.agg #[.slice none 0 0, .int .i64 0]), 2, 32) := by kernel_rfl

def AttPost (w : World) (pw d : Nat) (dv : Value) (xs : List Value) (e : Ending) (w' : World) : Prop :=
  ∃ (dv' : Value) (W : World), e = .returned (.tuple #[]) ∧ w' = W.setCell ⟨pw, 0, none⟩ dv' ∧ OwnV W 0 98 dv' (xs ++ [devV d]) ∧ Kept (fun b => dv.ownBlock ≠ some b) w W ∧ (dv'.ownBlock = dv.ownBlock ∨ ∃ b, dv'.ownBlock = some b ∧ w.heap.size ≤ b)

theorem att_facts {w W9 : World} {pw d : Nat} {v v9 : Value} {xs : List Value} {ob : Obj} (hpw : pw < w.heap.size) (h0 : w.cell? ⟨pw, 0, none⟩ = some v) (f0 : w.frozen? ⟨pw, 0, none⟩ = false) (hne : v.ownBlock ≠ some pw)
    (hown9 : OwnV W9 0 98 v9 (xs ++ [devV d])) (hg9 : (w.alloc ob).grownBy W9 v.ownBlock) (hb9 : v9.ownBlock = v.ownBlock ∨ v9.ownBlock = some (w.alloc ob).heap.size) :
    (∃ g9 cap9, v9 = .slice (some ⟨g9, 0, none⟩) (xs.length + 1) cap9) ∧ W9.cell? ⟨pw, 0, none⟩ = some v ∧ W9.frozen? ⟨pw, 0, none⟩ = false ∧ AttPost w pw d v xs (.returned (.tuple #[])) (W9.setCell ⟨pw, 0, none⟩ v9) := by
  have hblk : W9.heap[pw]? = w.heap[pw]? := by
    rw [hg9.block pw (by simp; omega) (fun e => hne e.symm), Below.heap_alloc w _ pw hpw]
  refine ⟨?_, (World.cell?_of_block (w := w) hblk).trans h0, (World.frozen?_of_block (w := w) hblk).trans f0, v9, W9, rfl, rfl, hown9, ((Kept.refl _ w).alloc _).grown hg9 (fun g hg h => h hg), ?_⟩
  · rcases hown9.form with ⟨_, h⟩ | ⟨g9, cap9, cur9, h, _⟩
    · simp at h
    · exact ⟨g9, cap9, by rw [h]; simp⟩
  · rcases hb9 with h | h
    · exact .inl h
    · exact .inr ⟨_, h, by simp⟩
set_option maxRecDepth 20000 in
set_option maxHeartbeats 400000 in
theorem attach_any (pw d : Nat) (dv : Value) (xs : List Value) (w : World) (h0 : w.cell? ⟨pw, 0, none⟩ = some dv) (f0 : w.frozen? ⟨pw, 0, none⟩ = false) (hpw : pw < w.heap.size) (hdv : OwnV w 0 98 dv xs) (hne : dv.ownBlock ≠ some pw) (hx : xs.length ≤ 1048576) :
    Calls Try.prog 25 #[.pointer (some ⟨pw, 0, none⟩), .iface 36 (.pointer (some ⟨d, 0, none⟩))] w (AttPost w pw d dv xs) := by
  obtain ⟨A0, c0, rfl, _, _, _⟩ := hdv.rd
  have Hdv := Lib.hid hdv
  have Hne := Lib.hid hne
  have Hpw := Lib.hid hpw
  have Hx := Lib.hid hx
  have H0 := Lib.hid h0
  have F0 := Lib.hid f0
  clear hdv hne hpw hx
  go_enter Try.func25, Try.ntmps25
  go_wp2_with (at_builtin; go_must (refine app_one rfl (.tmp 8) (.tmp 10) 66 98 rfl Try.underlying66 .nilIface 16 info_dev rfl 0 _ xs rfl (Hdv.out.alloc _) ⟨w.heap.size, 0, none⟩ 1 (.iface 36 (.pointer (some ⟨d, 0, none⟩))) rfl (cell_new _ _ _) rfl (by have := Hx.out; omega) (by have := Hx.out; omega) (Nat.zero_le _) ?_); intro v9 W9 hown9 hg9 hb9; obtain ⟨⟨g9, cap9, rfl⟩, hc9, hf9, hpost⟩ := att_facts Hpw.out H0.out F0.out Hne.out hown9 hg9 hb9; have Hpost := Lib.hid hpost; clear hpost hown9 hg9 hb9)
  go_end0
  exact Hpost.out
end Go.Proofs.Ytdnlikhfemhmeaa
