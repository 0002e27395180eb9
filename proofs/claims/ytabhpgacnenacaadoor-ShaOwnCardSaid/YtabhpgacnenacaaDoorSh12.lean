/-
  The law's examples.
-/
import Derived.Test.YtabhpgacnenacaaDoorSh11
import Derived.Lib.SlBytesConst
namespace Go.Proofs.YtabhpgacnenacaaDoor
open Go.RowKit

theorem shaL_len (l : List UInt8) : (shaL l).length = 32 := rfl
theorem hex_none : (⟨(hexL (shaL [])).toArray⟩ : ByteArray) = ⟨#[101, 51, 98, 48, 99, 52, 52, 50, 57, 56, 102, 99, 49, 99, 49, 52, 57, 97, 102, 98, 102, 52, 99, 56, 57, 57, 54, 102, 98, 57, 50, 52, 50, 55, 97, 101, 52, 49, 101, 52, 54, 52, 57, 98, 57, 51, 52, 99, 97, 52, 57, 53, 57, 57, 49, 98, 55, 56, 53, 50, 98, 56, 53, 53]⟩ := by
  rw [sha_none]
  decide +kernel
theorem hex_abc : (⟨(hexL (shaL [97, 98, 99])).toArray⟩ : ByteArray) = ⟨#[98, 97, 55, 56, 49, 54, 98, 102, 56, 102, 48, 49, 99, 102, 101, 97, 52, 49, 52, 49, 52, 48, 100, 101, 53, 100, 97, 101, 50, 50, 50, 51, 98, 48, 48, 51, 54, 49, 97, 51, 57, 54, 49, 55, 55, 97, 57, 99, 98, 52, 49, 48, 102, 102, 54, 49, 102, 50, 48, 48, 49, 53, 97, 100]⟩ := by
  rw [sha_abc]
  decide +kernel
theorem RB.mark (w : World) (cs : Array Value) (t : TypeId) (fr : Nat × Nat) (l : List UInt8) (h : cs.toList = bvs l) : RB (w.alloc (.cells cs t fr)) (w.heap.size + 1) (some ⟨w.heap.size, 0, none⟩) l := fun k x hx => by
  refine ⟨_, rfl, by show w.heap.size < _; omega, ?_⟩
  rw [add_flat, Nat.zero_add, cell_of_row _ _ _ _ _ _ (heap_alloc_new w (.cells cs t fr)), ← Array.getElem?_toList, h]
  simp [bvs, hx]
section
set_option maxRecDepth 100000
set_option maxHeartbeats 1000000
theorem known_any (w : World) (hT : NT w) : Calls Tryd.prog 7 #[] w fun e w' => e = .returned (.bool true) ∧ Below w.heap.size w w' := by
  have HT := Lib.hid hT
  have Hs := Lib.hid (sums_any none 0 [] w hT (RWB.nil _ _ _) (by simp) (by simp))
  clear hT
  go_enter Tryd.func7, Tryd.ntmps7
  go_wp2_with fail
  refine Hs.out.mono ?_
  rintro e w1 ⟨rfl, b1⟩
  have B1 := Lib.hid b1
  clear b1 Hs
  go_wp2_with fail
  refine (string_any _ w1 (shaL_len _)).mono ?_
  rintro e w2 ⟨rfl, b2⟩
  rw [hex_none]
  have B2 : Hid (Below w.heap.size w w2) := B1.out.trans (b2.mono B1.out.size)
  clear b2 B1
  have kc := fun (w : World) (C : Array Value) (n c : Nat) => Lib.run_convert_bytes_const (P := Tryd.prog) w 24 5 C n c Tryd.underlying24 Tryd.underlying5
  go_wp2_with fail
  clear kc
  obtain ⟨W1, hW1⟩ : ∃ W1, W1 = w2.alloc (.cells #[.int .u8 97, .int .u8 98, .int .u8 99] 5 (3, 4)) := ⟨_, rfl⟩
  have hz1 : W1.heap.size = w2.heap.size + 1 := by rw [hW1]; simp
  have hrb : RB W1 W1.heap.size (some ⟨w2.heap.size, 0, none⟩) [97, 98, 99] := by rw [hz1, hW1]; exact RB.mark w2 _ _ _ _ rfl
  have hbW : Below w.heap.size w W1 := by rw [hW1]; exact B2.out.alloc B2.out.size _
  rw [← hW1, ← hz1]
  have hrw := RWB.one W1 3 24 hrb (Nat.le_refl _) (by simp) (by omega) (fun e => by cases e)
  have Hs3 := Lib.hid (sums_any (some ⟨W1.heap.size, 0, none⟩) 1 [[97, 98, 99]] (W1.alloc (.cells #[.slice (some ⟨w2.heap.size, 0, none⟩) 3 3] 24)) (HT.out.below (hbW.alloc hbW.size _) (Nat.le_refl _)) (hrw.wide (by simp)) (by simp) (by simp))
  have HbW : Hid (Below w.heap.size w (W1.alloc (.cells #[.slice (some ⟨w2.heap.size, 0, none⟩) 3 3] 24))) := hbW.alloc hbW.size _
  clear hrb hrw hbW hW1
  refine Hs3.out.mono ?_
  rintro e w3 ⟨rfl, b3⟩
  have B3 : Hid (Below w.heap.size w w3) := HbW.out.trans (b3.mono HbW.out.size)
  clear b3 Hs3 HbW hz1
  go_wp2_with fail
  refine (string_any _ w3 (shaL_len _)).mono ?_
  rintro e w4 ⟨rfl, b4⟩
  have B4 : Hid (Below w.heap.size w w4) := B3.out.trans (b4.mono B3.out.size)
  rw [hex_abc]
  clear b4 B3
  go_wp2_with fail
  go_ret
  exact ⟨rfl, B4.out⟩
end
end Go.Proofs.YtabhpgacnenacaaDoor
