/-
  Matrices made: blank ones, units, pairs; the law's example.
-/
import Derived.Test.YtbfbjmngcojaoaaGf3
import Derived.RegionTactic
import Derived.ChangeAlike
namespace Go.Proofs.Ytbfbjmngcojaoaa
open Go.RowKit

set_option maxRecDepth 20000
def fitsB (n : Int) : Bool := decide (1 ≤ n ∧ n ≤ 255)
theorem fits_yes (n : Int) (w : World) (h1 : 1 ≤ n) (h2 : n ≤ 255) :
    Calls Try.prog 40 #[.int .i64 n] w fun e w' => e = .returned (.bool true) ∧ w = w' := by
  go_enter Try.func40, Try.ntmps40
  go_wp2_with fail
  go_ret
  exact ⟨rfl, rfl⟩
theorem fits_no (n : Int) (w : World) (h : n < 1 ∨ 255 < n) :
    Calls Try.prog 40 #[.int .i64 n] w fun e w' => e = .returned (.bool false) ∧ w = w' := by
  rcases h with h | h
  · go_enter Try.func40, Try.ntmps40
    go_wp2_with fail
    go_ret
    exact ⟨rfl, rfl⟩
  · have h1 : 1 ≤ n := by omega
    have hd : decide (n ≤ 255) = false := by simp; omega
    clear h
    go_enter Try.func40, Try.ntmps40
    go_wp2_with fail
    go_ret
    exact ⟨rfl, rfl⟩
def blankM (r n : Nat) : List (List UInt8) := List.replicate r (List.replicate n 0)
def rowV (g n i : Nat) : Value := .slice (some ⟨g + 1 + i, 0, none⟩) n n
def rowsV (g n k : Nat) : List Value := (List.range k).map (rowV g n)
structure BlankAt (w : World) (r n k : Nat) (wr : World) : Prop where
  head : Cells wr w.heap.size 46 (rowsV w.heap.size n k ++ List.replicate (r - k) (.slice none 0 0))
  size : wr.heap.size = w.heap.size + 1 + k
  rows : ∀ i, i < k → Blk wr (w.heap.size + 1 + i) (List.replicate n 0)
  bel : Below w.heap.size w wr
theorem BlankAt.start (w : World) (r n : Nat) {cs : Array Value} (h : cs = (List.replicate r (.slice none 0 0)).toArray) : BlankAt w r n 0 (w.alloc (.cells cs 46)) := by
  refine ⟨?_, by simp, fun i hi => by omega, (Below.refl _ _).alloc (Nat.le_refl _) _⟩
  have := Cells.new w cs 46
  rw [h] at this ⊢
  simpa [rowsV] using this
theorem BlankAt.step {w wr : World} {r n k : Nat} (h : BlankAt w r n k wr) (hk : k < r) {cs : Array Value} (hc : cs = (bvs (List.replicate n 0)).toArray) :
    BlankAt w r n (k + 1) ((wr.setCell ⟨w.heap.size, k, none⟩ (.slice (some ⟨wr.heap.size, 0, none⟩) n n)).alloc (.cells cs 5)) := by
  have hs := h.size
  refine ⟨?_, ?_, fun i hi => ?_, ?_⟩
  · have := (h.head.set k (.slice (some ⟨wr.heap.size, 0, none⟩) n n)).alloc (.cells cs 5)
    have e : (rowsV w.heap.size n k ++ List.replicate (r - k) (Value.slice none 0 0)).set k (.slice (some ⟨wr.heap.size, 0, none⟩) n n) = rowsV w.heap.size n (k + 1) ++ List.replicate (r - (k + 1)) (Value.slice none 0 0) := by
      have hl : (rowsV w.heap.size n k).length = k := by simp [rowsV]
      rw [List.set_append_right _ _ (by omega), hl, Nat.sub_self]
      obtain ⟨m, hm⟩ : ∃ m, r - k = m + 1 := ⟨r - k - 1, by omega⟩
      rw [hm, show r - (k + 1) = m by omega]
      simp only [List.replicate_succ, List.set_cons_zero]
      unfold rowsV
      rw [List.range_succ, List.map_append, List.append_assoc]
      simp [rowV, hs]
    rw [e] at this
    exact this
  · simp [World.setCell, hs]; omega
  · have hb : w.heap.size + 1 + i ≠ w.heap.size := by omega
    by_cases hik : i < k
    · refine Blk.alloc ?_ _
      unfold Blk
      rw [show (wr.setCell ⟨w.heap.size, k, none⟩ (.slice (some ⟨wr.heap.size, 0, none⟩) n n)).heap[w.heap.size + 1 + i]? = wr.heap[w.heap.size + 1 + i]? from Below.heap_setCell _ _ _ _ hb]
      exact h.rows i hik
    · obtain rfl : i = k := by omega
      have key : ∀ u : Value, ((wr.setCell ⟨w.heap.size, i, none⟩ u).alloc (.cells cs 5)).heap[w.heap.size + 1 + i]? = some (.cells cs 5) := fun u => by
        have := heap_alloc_new (wr.setCell ⟨w.heap.size, i, none⟩ u) (.cells cs 5)
        rw [show (wr.setCell ⟨w.heap.size, i, none⟩ u).heap.size = wr.heap.size by simp [World.setCell], hs] at this
        exact this
      unfold Blk
      rw [key, hc]
  · exact (h.bel.setCell (p := ⟨w.heap.size, k, none⟩) (Nat.le_refl _) _).alloc (by simp [World.setCell, hs]; omega) _
theorem BlankAt.done {w wr : World} {r n : Nat} (h : BlankAt w r n r wr) (hr : r ≤ 255) (hn : 1 ≤ n) (hn2 : n ≤ 255) : MatO wr w.heap.size wr.heap.size (.slice (some ⟨w.heap.size, 0, none⟩) r r) (blankM r n) := by
  have hs := h.size
  have hl : (rowsV w.heap.size n r).length = r := by simp [rowsV]
  have hc := h.head
  rw [Nat.sub_self, List.replicate_zero, List.append_nil] at hc
  have hg : ∀ (i : Nat) rv, (rowsV w.heap.size n r)[i]? = some rv → i < r ∧ rv = rowV w.heap.size n i := fun i rv hrv => by
    have hi := (List.getElem?_eq_some_iff.1 hrv).1
    rw [hl] at hi
    unfold rowsV at hrv
    rw [List.getElem?_map, List.getElem?_range (by omega)] at hrv
    exact ⟨hi, (Option.some.inj hrv).symm⟩
  refine ⟨rowsV w.heap.size n r, ?_, fun g hg => by cases hg; show w.heap.size < _; omega, by simp [hl, blankM], fun i rv l hrv hll => ?_, fun i j ri rj g hij hri hrj hgi hgj => ?_⟩
  · have := OwnV.mk (base := w.heap.size) (e := 46) (xs := rowsV w.heap.size n r) (cap := r) (Nat.le_refl _) hc (by omega) (by simp only [maxLen]; omega) hl (List.take_of_length_le (by omega))
    rw [hl] at this
    exact this
  · obtain ⟨hi, rfl⟩ := hg i rv hrv
    have : l = List.replicate n 0 := by
      unfold blankM at hll
      rw [List.getElem?_replicate, if_pos hi] at hll
      exact (Option.some.inj hll).symm
    subst this
    refine ⟨by simp; omega, ?_, fun g hg => by cases hg; show w.heap.size + 1 + i < _; omega⟩
    have := (h.rows i hi).own (base := w.heap.size) (by omega) (by simp; omega)
    rw [List.length_replicate] at this
    exact this
  · obtain ⟨_, rfl⟩ := hg i ri hri
    obtain ⟨_, rfl⟩ := hg j rj hrj
    cases hgi
    have e5 : w.heap.size + 1 + j = w.heap.size + 1 + i := Option.some.inj hgj
    omega
set_option maxHeartbeats 800000 in
theorem blank_any (r n : Nat) (w : World) (hr1 : 1 ≤ r) (hr2 : r ≤ 255) (hn1 : 1 ≤ n) (hn2 : n ≤ 255) :
    Calls Try.prog 41 #[.int .i64 (r : Int), .int .i64 (n : Int)] w fun e w' => e = .returned (.slice (some ⟨w.heap.size, 0, none⟩) r r) ∧ MatO w' w.heap.size w'.heap.size (.slice (some ⟨w.heap.size, 0, none⟩) r r) (blankM r n) ∧ Below w.heap.size w w' := by
  obtain ⟨cs, Hcs, hmk⟩ := make_rows r (by omega)
  obtain ⟨ds, Hds, hmd⟩ := make_run n (by omega)
  have Hst := Lib.hid (BlankAt.start w r n Hcs.out)
  have Hb : Hid (1 ≤ r ∧ r ≤ 255 ∧ 1 ≤ n ∧ n ≤ 255) := ⟨hr1, hr2, hn1, hn2⟩
  clear hr1 hn1 hn2
  have hr' : (r : Int) ≤ 255 := by omega
  go_enter Try.func41, Try.ntmps41
  go_wp2_with fail
  go_loopw [6, 11] (fun _ iv wr => ∃ k : Nat, iv = .int .i64 (k : Int) ∧ k ≤ r ∧ Hid (BlankAt w r n k wr)) (fun _ iv _ => r - (intOf iv).toNat)
  case atStart => exact ⟨0, rfl, Nat.zero_le _, Hst.out⟩
  case round =>
    obtain ⟨k, rfl, hk, hrel⟩ := hrel
    by_cases hlt : k < r
    · have hlt' : (k : Int) < (r : Int) := by omega
      have hs := hrel.out.size
      have hc0 : wr.cell? ⟨w.heap.size, k, none⟩ = some (.slice none 0 0) := hrel.out.head.cell (by
        have hl : (rowsV w.heap.size n k).length = k := by simp [rowsV]
        rw [List.getElem?_append_right (by omega), hl, Nat.sub_self, List.getElem?_replicate]
        rw [if_pos (by omega)])
      have hf0 : wr.frozen? ⟨w.heap.size, k, none⟩ = false := hrel.out.head.frozen k
      have Hn := Lib.hid (hrel.out.step hlt Hds.out)
      have Hs := Lib.hid hs
      have hgl : w.heap.size < wr.heap.size := by omega
      have hc1 : (wr.alloc (.cells ds 5)).cell? ⟨w.heap.size, k, none⟩ = some (.slice none 0 0) := (World.cell?_alloc_lt wr _ ⟨w.heap.size, k, none⟩ hgl).trans hc0
      have hne : ¬ wr.heap.size = w.heap.size := by omega
      clear hs hlt hrel
      generalize w.heap.size = g at *
      go_wp2_with fail
      go_roundw
      case rel => exact ⟨k + 1, by go_num, by omega, Hn.out⟩
      case measure => simp [intOf]; omega
    · obtain rfl : k = r := by omega
      have Hd := Lib.hid (hrel.out.done Hb.out.2.1 Hb.out.2.2.1 Hb.out.2.2.2)
      have Hbe := Lib.hid hrel.out.bel
      clear hlt hrel
      go_wp2_with fail
      go_ret
      exact ⟨rfl, Hd.out, Hbe.out⟩
end Go.Proofs.Ytbfbjmngcojaoaa
