/-
  The law's device is made.
-/
import Derived.Test.YtoeeppecinjiiaaNv12
namespace Go.Proofs.Ytoeeppecinjiiaa
open Go.RowKit

def RefNew (w : World) (n : Nat) (e : Ending) (w' : World) : Prop :=
  ∃ (Q : Nat → Option Tag) (rd : Nat), e = .returned (.tuple #[.pointer (some ⟨rd, 0, none⟩), .int .i64 0]) ∧ RefAt w' Q rd (Ref.new n) ∧ Ext w (fun _ => none) w' Q
theorem refnew_facts {w : World} {n : Nat} (h1 : 64 ≤ n) (h2 : n ≤ 67108864) : RefNew w n (.returned (.tuple #[.pointer (some ⟨w.heap.size + 1, 0, none⟩), .int .i64 0])) ((w.alloc (.cells (bvs (List.replicate n 0)).toArray 5)).alloc (.cells #[.slice (some ⟨w.heap.size, 0, none⟩) n n, .slice none 0 0] 48)) := by
  have hB : Blk ((w.alloc (.cells (bvs (List.replicate n 0)).toArray 5)).alloc (.cells #[.slice (some ⟨w.heap.size, 0, none⟩) n n, .slice none 0 0] 48)) w.heap.size (List.replicate n 0) :=
    Blk.alloc (show Blk (w.alloc _) w.heap.size _ from heap_alloc_new w _) _
  have hD := Cells.new (w.alloc (.cells (bvs (List.replicate n 0)).toArray 5)) #[.slice (some ⟨w.heap.size, 0, none⟩) n n, .slice none 0 0] 48
  have e : (w.alloc (.cells (bvs (List.replicate n 0)).toArray 5)).heap.size = w.heap.size + 1 := by simp
  rw [e] at hD
  have hsz : ((w.alloc (.cells (bvs (List.replicate n 0)).toArray 5)).alloc (.cells #[.slice (some ⟨w.heap.size, 0, none⟩) n n, .slice none 0 0] 48)).heap.size = w.heap.size + 2 := by simp
  have hk : Kept (fun _ => True) w ((w.alloc (.cells (bvs (List.replicate n 0)).toArray 5)).alloc (.cells #[.slice (some ⟨w.heap.size, 0, none⟩) n n, .slice none 0 0] 48)) := ((Kept.refl _ w).alloc _).alloc _
  have ho := Blk.own hB (base := 0) (Nat.zero_le _) (by rw [List.length_replicate]; omega)
  rw [List.length_replicate] at ho
  generalize ((w.alloc (.cells (bvs (List.replicate n 0)).toArray 5)).alloc (.cells #[.slice (some ⟨w.heap.size, 0, none⟩) n n, .slice none 0 0] 48)) = w' at *
  refine ⟨fun b => if b = w.heap.size then some .bytes else if b = w.heap.size + 1 then some .nv else none, w.heap.size + 1, rfl, ⟨fun b hb => ?_, ⟨_, _, hD, ?_, ho, fun g hg => ?_, World.ownsRow_nil _ 0 _ _, fun g hg => by cases hg⟩, ?_, ?_, fun p hp => by simp [Ref.new] at hp⟩, hk.mono fun _ _ _ => trivial, fun b hb => ?_⟩
  · rw [hsz]
    by_cases q : b < w.heap.size + 2
    · exact q
    · simp only [if_neg (show ¬ b = w.heap.size by omega), if_neg (show ¬ b = w.heap.size + 1 by omega)] at hb
      exact absurd rfl hb
  · simp only [if_neg (show ¬ w.heap.size + 1 = w.heap.size by omega), if_true]
  · cases hg
    simp only [if_true]
  · show 1 ≤ (List.replicate n _).length
    rw [List.length_replicate]; omega
  · show (List.replicate n _).length ≤ _
    rw [List.length_replicate]; exact h2
  · simp only [if_neg (show ¬ b = w.heap.size by omega), if_neg (show ¬ b = w.heap.size + 1 by omega)]
set_option maxRecDepth 20000
set_option maxHeartbeats 1000000
theorem rnew_ok (n : Nat) (w : World) (h1 : 64 ≤ n) (h2 : n ≤ 67108864) : Calls Try.prog 9 #[.int .i64 (n : Int)] w (RefNew w n) := by
  obtain ⟨cs, Hcs, hmk⟩ := make_run n (by omega)
  have Hf := Lib.hid (refnew_facts (w := w) h1 h2)
  rw [← Hcs.out] at Hf
  have b1 : (64 : Int) ≤ (n : Int) := by omega
  have b2 : (n : Int) ≤ 67108864 := by omega
  clear h1 h2 Hcs
  go_enter Try.func9, Try.ntmps9
  go_wp2_with fail
  go_ret2
  exact Hf.out
theorem rnew_bad (n : Int) (w : World) (h : n < 64 ∨ 67108864 < n) : Calls Try.prog 9 #[.int .i64 n] w fun e w' => e = .returned (.tuple #[.pointer none, .int .i64 1]) ∧ w = w' := by
  by_cases h1 : n < 64
  · clear h
    go_enter Try.func9, Try.ntmps9
    go_wp2_with fail
    go_ret2
    exact ⟨rfl, rfl⟩
  · have h2 : 67108864 < n := by omega
    have h3 : 64 ≤ n := by omega
    clear h h1
    go_enter Try.func9, Try.ntmps9
    go_wp2_with fail
    go_ret2
    exact ⟨rfl, rfl⟩
end Go.Proofs.Ytoeeppecinjiiaa
