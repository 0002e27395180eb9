/-
  append to a row of elisions in place; append of places that grows into a new row.
-/
import Derived.Test.YtghcfmkmndldoaaKEl13
import Derived.Lib.AppendZerosOnto
namespace Go.Proofs.Ytghcfmkmndldoaa
open Go.RowKit Go.Sort Go.Lib

section
variable {w w' : World} {g c n base : Nat} {L : List Value} {es fs : List Ec} {A : Option Addr} {B : Nat}
/-- append(row[:i], fs...) where there is room -/
theorem app_row_room (ty : TypeId) (h : RowAt w g c L) (i m uc : Nat) (hm : m = fs.length) (hroom : i + m ≤ c) (hr : RE w B A fs) :
    ∃ w', (Builtin.append_ #[22, 22] ty #[.slice (some ⟨g, 0, none⟩) i c, .slice A m uc]).run Try.prog w = .ok (.slice (some ⟨g, 0, none⟩) (i + m) c) w' ∧ RowAt w' g c (splice L (i * 3) (cellsE fs)) ∧ Kept (fun k => k ≠ g) w w' := by
  subst hm
  obtain ⟨i0, hi0, hz0, hz1, hz2⟩ := info_parts info_elision
  have hl3 := h.len
  have hfit : i * 3 + (cellsE fs).length ≤ L.length := by rw [cellsE_length]; omega
  by_cases h0 : fs = []
  · subst h0
    refine ⟨w, ?_, ⟨by simpa [splice, cellsE] using h.at_, by simpa [splice, cellsE] using h.len⟩, Kept.refl _ _⟩
    have hic : i ≤ c := by simpa using hroom
    cases A <;> simp [Builtin.append_, run_underlying Try.underlying22, sizeOf, typeInfo, hi0, hz1, Builtin.lenOf, Builtin.firstCells, hic, storeCells, loadCells, loadCellsFrom]
  · obtain ⟨b, o, rfl, _⟩ := hr 0 (fs[0]'(List.length_pos_iff.2 h0)) (List.getElem?_eq_getElem _)
    have hrun := run_append_room (P := Try.prog) w 22 ty 32 i0 Try.underlying22 hi0 g i c L.toArray h.at_ ⟨b, o, none⟩ fs.length uc (cellsE fs) (by rw [cellsE_length, hz1])
      (fun j v hj => hr.cells fs.length rfl j v (by rw [List.take_of_length_le (Nat.le_refl _)]; exact hj)) (oneE fs) hroom (by rw [hz1]; simpa using hfit)
    refine ⟨_, hrun, ?_, ⟨rfl, rfl, rfl, by simp [World.setRow], fun k _ hk => setRow_other w g k _ hk⟩⟩
    have e : (splice L (i * 3) (cellsE fs)).toArray = (L.toArray.toList.take (i * i0.size) ++ cellsE fs ++ L.toArray.toList.drop (i * i0.size + (cellsE fs).length)).toArray := by simp [splice, hz1]
    rw [← e]
    exact ⟨setRow_heap w g _ _ _ _ h.at_, by rw [length_splice _ _ _ hfit]; exact h.len⟩
/-- append(row[:i], make(.., k)...) where there is no room: a new row, which begins with what stood ahead of i -/
theorem grow_row_run (ty : TypeId) (h : RowAt w g c L) (ht : L.take (n * 3) = cellsE es) (hn : n = es.length) (i k : Nat) (hin : i ≤ n) (h0 : 0 < k) (hg : c < i + k) (hbig : i + k ≤ 1099511627776) :
    ∃ c' L', (Builtin.append_ #[22, 3] ty #[.slice (some ⟨g, 0, none⟩) i c, .int .i64 (k : Int)]).run Try.prog w = .ok (.slice (some ⟨w.heap.size, 0, none⟩) (i + k) c') (w.drew.alloc (.cells L'.toArray 32)) ∧
      RowAt (w.drew.alloc (.cells L'.toArray 32)) w.heap.size c' L' ∧ L'.take (i * 3) = cellsE (es.take i) ∧ i + k ≤ c' ∧ c' ≤ maxLen := by
  obtain ⟨i0, hi0, hz0, hz1, hz2⟩ := info_parts info_elision
  have hti : cellsE (es.take i) = L.take (i * 3) := by
    have e1 : cellsE es = cellsE (es.take i) ++ cellsE (es.drop i) := by rw [← cellsE_append, List.take_append_drop]
    have e2 : L.take (i * 3) = (L.take (n * 3)).take (i * 3) := by rw [List.take_take, Nat.min_eq_left (by omega)]
    have e3 : (cellsE (es.take i)).length = i * 3 := by rw [cellsE_length, List.length_take, Nat.min_eq_left (by omega)]
    have e4 : (cellsE (es.take i) ++ cellsE (es.drop i)).take (i * 3) = cellsE (es.take i) := by rw [← e3]; exact List.take_left
    rw [e2, ht, e1, e4]
  have hli : (cellsE (es.take i)).length = i * 3 := by rw [cellsE_length, List.length_take, Nat.min_eq_left (by omega)]
  have hold : (Builtin.firstCells i0.size i (.slice (some ⟨g, 0, none⟩) i c)).run Try.prog w.drew = .ok (cellsE (es.take i)).toArray w.drew := by
    rw [hz1]
    exact run_firstCells_some w.drew 3 i ⟨g, 0, none⟩ i c (cellsE (es.take i)) hli (fun j v hj => by
      rw [Addr.add_lit, Nat.zero_add]
      have hj' : j < i * 3 := by rw [← hli]; exact (List.getElem?_eq_some_iff.1 hj).1
      rw [hti, List.getElem?_take, if_pos hj'] at hj
      exact h.cell hj)
  have hrun := Lib.run_append_grow_zeros w 22 3 ty 32 i0 _ .i64 .i64 Try.underlying22 Try.underlying3 hi0 hz0 (some ⟨g, 0, none⟩) i c (cellsE (es.take i)) hold k h0 (by omega) hg (by omega) (by rw [hz2]; omega) (by rw [hz2]; exact growslice_fits hg (by omega))
  obtain ⟨G, hG⟩ : ∃ G, G = grownCap w (i + k) c 32 := ⟨_, rfl⟩
  have hG1 : i + k ≤ G := by rw [hG]; exact grownCap_ge w _ _ _
  have hG2 : G ≤ maxLen := by rw [hG]; exact grownCap_le_maxLen w _ _ _ (by simp only [maxLen]; omega)
  rw [← hG] at hrun
  obtain ⟨R, hR⟩ : ∃ R : Array Value, R = (cellsE (es.take i)).toArray ++ Builtin.zeroCells (Value.agg #[.string ⟨#[]⟩, .string ⟨#[]⟩, .int .u64 0]).cells k ++ Builtin.zeroCells (Value.agg #[.string ⟨#[]⟩, .string ⟨#[]⟩, .int .u64 0]).cells (G - (i + k)) := ⟨_, rfl⟩
  rw [← hR] at hrun
  have hRs : R.size = G * 3 := by
    rw [hR, Array.size_append, Array.size_append, size_zeroCells, size_zeroCells, List.size_toArray, hli]
    have : (Value.agg #[.string ⟨#[]⟩, .string ⟨#[]⟩, .int .u64 0]).cells.size = 3 := rfl
    rw [this]
    omega
  refine ⟨G, R.toList, by simpa using hrun, ⟨?_, by rw [Array.length_toList]; exact hRs⟩, ?_, hG1, hG2⟩
  · have := Cells.new w.drew R 32
    unfold Cells at this
    simpa using this
  · rw [hR]
    simp only [Array.toList_append, List.append_assoc]
    rw [List.take_append_of_le_length (by simp [hli]), List.take_of_length_le (by simp [hli])]
end
end Go.Proofs.Ytghcfmkmndldoaa
