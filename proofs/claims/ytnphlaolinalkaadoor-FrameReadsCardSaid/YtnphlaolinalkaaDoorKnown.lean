/-
  The chapter's examples, as the statements ask them first.
-/
import Derived.Test.YtnphlaolinalkaaDoorPageBad
import Derived.Test.YtnphlaolinalkaaDoorRn
import Derived.Lib.SlBytesConst
namespace Go.Proofs.YtnphlaolinalkaaDoor
open Go.RowKit

theorem known_num : readNum [172, 2] = (300, 2, 0) := by decide +kernel
theorem known_sum : sumOf [49, 50, 51, 52, 53, 54, 55, 56, 57] = 3808858755 := by decide +kernel
theorem known_err : pageErr 32 0 0 1 = 0 := by decide +kernel
theorem known_room : roomOf 32 = 13 := by decide +kernel
theorem known_len : (pageOf 32 0 0 1 [97]).length = 32 := by decide +kernel
theorem known_4 : (pageOf 32 0 0 1 [97])[4]? = some 1 := by decide +kernel
theorem known_17 : (pageOf 32 0 0 1 [97])[17]? = some 1 := by decide +kernel
theorem known_19 : (pageOf 32 0 0 1 [97])[19]? = some 97 := by decide +kernel

/-- what stands in the example's page, and the world behind it -/
theorem known_page {w1 : World} {base : Nat} {v : Value} (h : Own w1 base v (pageOf 32 0 0 1 [97])) : ∃ g cap, v = .slice (some ⟨g, 0, none⟩) 32 cap ∧ base ≤ g ∧ g < w1.heap.size ∧
    w1.cell? ⟨g, 4, none⟩ = some (.int .u8 1) ∧ w1.cell? ⟨g, 17, none⟩ = some (.int .u8 1) ∧ w1.cell? ⟨g, 19, none⟩ = some (.int .u8 97) := by
  obtain ⟨g, cap, hv, hb, hlt, _, hc, _⟩ := h.form (by rw [known_len]; omega)
  rw [known_len] at hv
  have at_ : ∀ (i : Nat) (x : UInt8), (pageOf 32 0 0 1 [97])[i]? = some x → w1.cell? ⟨g, i, none⟩ = some (.int .u8 (x.toNat : Int)) := fun i x hx => by
    obtain ⟨hi, he⟩ := List.getElem?_eq_some_iff.1 hx
    rw [hc i hi, he]
  exact ⟨g, cap, hv, hb, hlt, at_ 4 1 known_4, at_ 17 1 known_17, at_ 19 97 known_19⟩

theorem RB.mark (w : World) (cs : Array Value) (t : TypeId) (fr : Nat × Nat) (l : List UInt8) (h : cs.toList = bvs l) : RB (w.alloc (.cells cs t fr)) (w.heap.size + 1) (some ⟨w.heap.size, 0, none⟩) l := fun k x hx => by
  refine ⟨_, rfl, by show w.heap.size < _; omega, ?_⟩
  have e : (⟨w.heap.size, 0, none⟩ : Addr).add k = ⟨w.heap.size, k, none⟩ := by unfold Addr.add; split <;> simp_all
  rw [e, World.cell?_alloc_mark, ← Array.getElem?_toList, h]
  simp [bvs, hx]

set_option maxRecDepth 200000 in
set_option maxHeartbeats 1000000 in
theorem known_any (w : World) (ht : Tab w) : Calls Tryd.prog 10 #[] w fun e w' => e = .returned (.bool true) ∧ Below w.heap.size w w' := by
  have Ht := Lib.hid ht
  clear ht
  go_enter Tryd.func10, Tryd.ntmps10
  go_wp2_with fail
  have hr1 := RB.new w #[Value.int .u8 172, .int .u8 2] 5 [172, 2] rfl
  have hc1 := rn_any (some ⟨w.heap.size, 0, none⟩) 2 [172, 2] _ _ hr1 (by simp) (by simp) (by simp)
  rw [known_num] at hc1
  refine hc1.mono ?_
  clear hc1 hr1
  rintro e w' ⟨rfl, rfl⟩
  unfold rnVal
  have hb1 : Below w.heap.size w (w.alloc (.cells #[Value.int .u8 172, .int .u8 2] 5)) := (Below.refl _ _).alloc (Nat.le_refl _) _
  have hsz1 : w.heap.size < (w.alloc (.cells #[Value.int .u8 172, .int .u8 2] 5)).heap.size := by simp
  generalize w.alloc (.cells #[Value.int .u8 172, .int .u8 2] 5) = w1 at hb1 hsz1 ⊢
  have Hb1 := Lib.hid hb1
  have Hsz1 := Lib.hid hsz1
  clear hb1 hsz1
  have kc := fun (W : World) (C : Array Value) (n c : Nat) => Lib.run_convert_bytes_const (P := Tryd.prog) W 24 5 C n c Tryd.underlying24 Tryd.underlying5
  go_wp2_with fail
  have hr2 := RB.mark w1 #[Value.int .u8 97] 5 (1, 2) [97] rfl
  have ht2 : Tab (w1.alloc (.cells #[Value.int .u8 97] 5 (1, 2))) := Ht.out.below (Hb1.out.alloc (Nat.le_of_lt Hsz1.out) _) Ht.out.pos
  have hc2 := page_any 32 0 0 1 0 (some ⟨w1.heap.size, 0, none⟩) 1 [97] _ _ ht2 hr2 (by simp) (by decide) (by simp)
  rw [show ([97] : List UInt8).length = 1 from rfl, known_err] at hc2
  refine hc2.mono ?_
  clear hc2 hr2 ht2
  rintro e w2 ⟨v, rfl, hown, hbel⟩
  have hb2 : Below w.heap.size w w2 := (Hb1.out.alloc (Nat.le_of_lt Hsz1.out) (.cells #[Value.int .u8 97] 5 (1, 2))).trans (hbel.mono (by have := Hsz1.out; simp; omega))
  have hsz2 : w.heap.size < w2.heap.size := by have h1 := hbel.size; have h2 := Hsz1.out; rw [World.size_alloc] at h1; omega
  clear hbel
  obtain ⟨g, cap, rfl, hbg, hlt, q4, q17, q19⟩ := known_page hown
  clear hown
  have Hb2 := Lib.hid hb2
  have Hsz2 := Lib.hid hsz2
  have Hlt := Lib.hid hlt
  have Q4 := Lib.hid q4
  have Q17 := Lib.hid q17
  have Q19 := Lib.hid q19
  clear hb2 hsz2 q4 q17 q19 hbg hlt
  go_wp2_with fail
  have hr3 := RB.mark w2 #[Value.int .u8 49, .int .u8 50, .int .u8 51, .int .u8 52, .int .u8 53, .int .u8 54, .int .u8 55, .int .u8 56, .int .u8 57] 5 (9, 10) [49, 50, 51, 52, 53, 54, 55, 56, 57] rfl
  have hb3 : Below w2.heap.size w2 (w2.alloc (.cells #[Value.int .u8 49, .int .u8 50, .int .u8 51, .int .u8 52, .int .u8 53, .int .u8 54, .int .u8 55, .int .u8 56, .int .u8 57] 5 (9, 10))) := (Below.refl _ _).alloc (Nat.le_refl _) _
  have hz3 : (w2.alloc (.cells #[Value.int .u8 49, .int .u8 50, .int .u8 51, .int .u8 52, .int .u8 53, .int .u8 54, .int .u8 55, .int .u8 56, .int .u8 57] 5 (9, 10))).heap.size = w2.heap.size + 1 := by simp
  generalize w2.alloc (.cells #[Value.int .u8 49, .int .u8 50, .int .u8 51, .int .u8 52, .int .u8 53, .int .u8 54, .int .u8 55, .int .u8 56, .int .u8 57] 5 (9, 10)) = w3 at hr3 hb3 hz3 ⊢
  have hr4 := RBB.one w3 9 24 hr3 (by omega) (by simp)
  have hb4 : Below w2.heap.size w2 (w3.alloc (.cells #[.slice (some ⟨w2.heap.size, 0, none⟩) 9 9] 24)) := hb3.alloc (by omega) _
  rw [hz3] at hr4
  rw [show ([49, 50, 51, 52, 53, 54, 55, 56, 57] : List UInt8).length = 9 from rfl] at hr4
  have ht4 : Tab (w3.alloc (.cells #[.slice (some ⟨w2.heap.size, 0, none⟩) 9 9] 24)) := Ht.out.below (Hb2.out.trans (hb4.mono (Nat.le_of_lt Hsz2.out))) Ht.out.pos
  generalize w3.alloc (.cells #[.slice (some ⟨w2.heap.size, 0, none⟩) 9 9] 24) = w4 at hr4 hb4 ht4 ⊢
  have hc3 := sum_any (some ⟨w2.heap.size + 1, 0, none⟩) 1 [[49, 50, 51, 52, 53, 54, 55, 56, 57]] _ _ ht4 hr4 (by simp) (by simp)
  rw [show ([[49, 50, 51, 52, 53, 54, 55, 56, 57]] : List (List UInt8)).flatten = [49, 50, 51, 52, 53, 54, 55, 56, 57] from rfl, known_sum] at hc3
  refine hc3.mono ?_
  clear hc3 hr4 hr3
  rintro e w5 ⟨rfl, rfl⟩
  have q4 := (hb4.cell (p := ⟨g, 4, none⟩) Hlt.out).trans Q4.out
  have q17 := (hb4.cell (p := ⟨g, 17, none⟩) Hlt.out).trans Q17.out
  have q19 := (hb4.cell (p := ⟨g, 19, none⟩) Hlt.out).trans Q19.out
  have hb5 : Below w.heap.size w w4 := Hb2.out.trans (hb4.mono (Nat.le_of_lt Hsz2.out))
  have Hb5 := Lib.hid hb5
  clear hb3 hb4 hz3 ht4 hb5
  go_wp2_with (go_at_call 30; refine (room_any _ _).mono ?_; rw [known_room]; rintro e w' ⟨rfl, rfl⟩)
  go_ret
  exact ⟨rfl, Hb5.out⟩
end Go.Proofs.YtnphlaolinalkaaDoor
