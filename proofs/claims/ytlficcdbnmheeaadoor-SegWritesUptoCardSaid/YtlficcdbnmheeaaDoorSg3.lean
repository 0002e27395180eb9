/-
  cut: bytes parted into pieces of one size.
-/
import Derived.Test.YtlficcdbnmheeaaDoorKSg2
import Derived.Test.YtlficcdbnmheeaaDoorKRs1
namespace Go.Proofs.YtlficcdbnmheeaaDoor
open Go.RowKit Go.Sort Go.Lib

/-- the pieces' headers -/
def hdrC (blk o c n : Nat) : List Value := (List.range n).map fun i => .slice (some ⟨blk, o + i * c, none⟩) c c
/-- the pieces -/
def cutN (b : List UInt8) (c n : Nat) : Mtx := (List.range n).map fun i => (b.drop (i * c)).take c
theorem hdrC_len (blk o c n : Nat) : (hdrC blk o c n).length = n := by simp [hdrC]
theorem cutN_len (b : List UInt8) (c n : Nat) : (cutN b c n).length = n := by simp [cutN]
theorem hdrC_get {blk o c n i : Nat} (h : i < n) : (hdrC blk o c n)[i]? = some (.slice (some ⟨blk, o + i * c, none⟩) c c) := by simp [hdrC, h]
theorem cutN_get {b : List UInt8} {c n i : Nat} (h : i < n) : (cutN b c n)[i]? = some ((b.drop (i * c)).take c) := by simp [cutN, h]
theorem hdrC_succ (blk o c n : Nat) : hdrC blk o c (n + 1) = hdrC blk o c n ++ [.slice (some ⟨blk, o + n * c, none⟩) c c] := by simp [hdrC, List.range_succ]
theorem cutN_row {b : List UInt8} {c n : Nat} (h : n * c ≤ b.length) {i : Nat} {l : List UInt8} (hl : (cutN b c n)[i]? = some l) : l.length = c := by
  have hi : i < n := by
    have := (List.getElem?_eq_some_iff.1 hl).1
    rwa [cutN_len] at this
  rw [cutN_get hi] at hl
  cases hl
  have : (i + 1) * c ≤ n * c := Nat.mul_le_mul_right c hi
  rw [Nat.succ_mul] at this
  simp
  omega
/-- the pieces, read -/
theorem cutN_rb {w : World} {B blk o c n : Nat} {b : List UInt8} (hr : RB w B (some ⟨blk, o, none⟩) b) (_hn : n * c ≤ b.length) {i : Nat} (_hi : i < n) : RB w B (some ⟨blk, o + i * c, none⟩) ((b.drop (i * c)).take c) := (hr.cutFlat (i * c)).take c
theorem cut_rm {w : World} {g blk o c n : Nat} {b : List UInt8} (hc : Cells w g 25 (hdrC blk o c n)) (hr : RB w w.heap.size (some ⟨blk, o, none⟩) b) (hn : n * c ≤ b.length) : RM w w.heap.size (some ⟨g, 0, none⟩) (cutN b c n) := fun i l hl => by
  have hi : i < n := by
    have := (List.getElem?_eq_some_iff.1 hl).1
    rwa [cutN_len] at this
  have hlen := cutN_row hn hl
  rw [cutN_get hi] at hl
  cases hl
  exact ⟨g, 0, _, c, rfl, hc.lt, by rw [Nat.zero_add, hlen]; exact hc.cell (hdrC_get hi), cutN_rb hr hn hi, by rw [hlen]; exact Nat.le_refl _⟩
section
set_option maxRecDepth 20000
set_option maxHeartbeats 800000
theorem slice_three (A : Addr) (L c a s : Nat) (has : a < s) (hsc : s ≤ c) (W : World) :
    (Instr.slice 25 (.slice (some A) L c) (some (.int .i64 (a : Int))) (some (.int .i64 (s : Int))) (some (.int .i64 (s : Int)))).run Tryd.prog W = .ok (.slice (some (A.add a)) (s - a) (s - a)) W := by
  have he : Tryd.prog.elem 25 = 5 := by simp [Program.elem, Tryd.underlying25]
  have hz : ∀ w, (Go.sizeOf 5).run Tryd.prog w = .ok 1 w := fun w => by kernel_rfl
  rw [run_slice_lhm W 25 _ _ _ (by rw [he]; exact Tryd.underlying25) .i64 .i64 .i64 _ _ _ (by omega) (by omega) (by omega) (by omega), he, hz]
  have e : ¬ s = a := by omega
  simp [Result.andThen, sliced, e]
theorem cut_any (blk o cp c n L : Nat) (w : World) (hL : L ≤ cp) (hn : n = L / c) (hn2 : n ≤ 4096) (hc1 : 1 ≤ c) (hc2 : c ≤ 4194304) (hL2 : L ≤ 17179869184) :
    Calls Tryd.prog 49 #[.slice (some ⟨blk, o, none⟩) L cp, .int .i64 (c : Int)] w fun e w' => e = .returned (.slice (some ⟨w.heap.size, 0, none⟩) n n) ∧ Cells w' w.heap.size 25 (hdrC blk o c n) ∧ Below w.heap.size w w' := by
  obtain ⟨cs, Hcs, hmk⟩ := make_lists n hn2
  have hq : (L : Int) / (c : Int) = (n : Int) := by rw [hn]; simp
  have hq2 : IntKind.i64.wrap ((L : Int) / (c : Int)) = (n : Int) := by rw [hq, IntKind.wrap_i64]; omega
  have hq3 : (L : Int).tdiv (c : Int) = (n : Int) := by rw [hn]; simp [Int.ofNat_tdiv]
  have hc0 : ¬ c = 0 := by omega
  have hcz : ¬ (c : Int) = 0 := by omega
  have Hnc : Hid (n * c ≤ L) := by show _ ≤ _; rw [hn]; exact Nat.div_mul_le_self L c
  have Hc : Hid (Cells (w.alloc (.cells cs 25)) w.heap.size 25 (hdrC blk o c 0 ++ List.replicate (n - 0) (.slice none 0 0)) ∧ Below w.heap.size w (w.alloc (.cells cs 25))) := by
    refine ⟨?_, (Below.refl _ _).alloc (Nat.le_refl _) _⟩
    have := Cells.new w cs 25
    rw [Hcs.out] at this ⊢
    simpa [hdrC] using this
  have hni : (n : Int) ≤ 4096 := by omega
  have HL := Lib.hid (And.intro hL (And.intro hL2 (And.intro hc1 hc2)))
  clear hn hL hL2 Hcs hc1 hc2
  go_enter Tryd.func49, Tryd.ntmps49
  go_wp2_with fail
  go_loopw [16] (fun iv wr => ∃ i : Nat, iv = .int .i64 (i : Int) ∧ i ≤ n ∧ Hid (Cells wr w.heap.size 25 (hdrC blk o c i ++ List.replicate (n - i) (.slice none 0 0)) ∧ Below w.heap.size w wr)) (fun iv _ => n - (intOf iv).toNat)
  case atStart => exact ⟨0, rfl, Nat.zero_le _, Hc.out⟩
  case round =>
    obtain ⟨i, rfl, hi, hst⟩ := hrel
    by_cases hlt : i < n
    · have hlt' : (i : Int) < (n : Int) := by omega
      obtain ⟨a, ha⟩ : ∃ a, a = i * c := ⟨_, rfl⟩
      obtain ⟨s, hs⟩ : ∃ s, s = (i + 1) * c := ⟨_, rfl⟩
      have hsn : s ≤ n * c := by rw [hs]; exact Nat.mul_le_mul_right c hlt
      have has : s = a + c := by rw [hs, ha, Nat.succ_mul]
      obtain ⟨q1, q2, q3, q4⟩ := HL.out
      have hm1 : (i : Int) * (c : Int) = (a : Int) := by rw [ha]; simp
      have hm2 : ((i : Int) + 1) * (c : Int) = (s : Int) := by rw [hs]; simp
      have hnc := Hnc.out
      have hsb : (s : Int) ≤ 17179869184 := by omega
      have hab : (a : Int) ≤ 17179869184 := by omega
      have hsl : ∀ W, (Instr.slice 25 (.slice (some ⟨blk, o, none⟩) L cp) (some (.int .i64 (a : Int))) (some (.int .i64 (s : Int))) (some (.int .i64 (s : Int)))).run Tryd.prog W = .ok (.slice (some ⟨blk, o + a, none⟩) c c) W := fun W => by
        rw [slice_three _ L cp a s (by omega) (by omega) W, add_flat, show s - a = c by omega]
      have hcell : wr.cell? ⟨w.heap.size, i, none⟩ = some (.slice none 0 0) := hst.out.1.cell (by
        rw [List.getElem?_append_right (by rw [hdrC_len]; exact Nat.le_refl _), hdrC_len, Nat.sub_self, List.getElem?_replicate, if_pos (by omega)])
      have hfr := hst.out.1.frozen i
      have Hn : Hid (Cells (wr.setCell ⟨w.heap.size, i, none⟩ (.slice (some ⟨blk, o + a, none⟩) c c)) w.heap.size 25 (hdrC blk o c (i + 1) ++ List.replicate (n - (i + 1)) (.slice none 0 0)) ∧ Below w.heap.size w (wr.setCell ⟨w.heap.size, i, none⟩ (.slice (some ⟨blk, o + a, none⟩) c c))) := by
        refine ⟨?_, hst.out.2.setCell (p := ⟨w.heap.size, i, none⟩) (Nat.le_refl _) _⟩
        have := hst.out.1.set i (.slice (some ⟨blk, o + a, none⟩) c c)
        rw [List.set_append_right _ _ (by rw [hdrC_len]; exact Nat.le_refl _), hdrC_len, Nat.sub_self, show n - i = (n - (i + 1)) + 1 by omega, List.replicate_succ, List.set_cons_zero] at this
        rw [hdrC_succ, List.append_assoc, ← ha]
        exact this
      clear ha hs hsn has q1 q2 q3 q4 hnc hlt hst
      go_wp2_with fail
      go_roundw
      case rel => exact ⟨i + 1, by go_num, by omega, Hn.out⟩
      case measure => simp [intOf]; omega
    · obtain rfl : i = n := by omega
      have Hf : Hid (Cells wr w.heap.size 25 (hdrC blk o c i) ∧ Below w.heap.size w wr) := by
        have := hst.out
        rw [Nat.sub_self, List.replicate_zero, List.append_nil] at this
        exact this
      clear hst hlt
      go_wp2_with fail
      go_ret
      exact ⟨rfl, Hf.out⟩
end
end Go.Proofs.YtlficcdbnmheeaaDoor
