/-
  A row of elisions turned in place: copy and clear within the call's own block.
-/
import Derived.Test.YtghcfmkmndldoaaEl14
import Derived.Laws.CopyOwn
namespace Go.Proofs.Ytghcfmkmndldoaa
open Go.RowKit Go.Sort Go.Lib

/-- THE BLOCK g has room for c elisions; its cells are L -/
structure RowAt (w : World) (g c : Nat) (L : List Value) : Prop where
  at_ : w.heap[g]? = some (.cells L.toArray 32 (0, 0))
  len : L.length = c * 3
section
variable {w w' : World} {g c n base : Nat} {L : List Value} {es fs : List Ec} {A : Option Addr} {B : Nat}
theorem RowAt.lt (h : RowAt w g c L) : g < w.heap.size := (Array.getElem?_eq_some_iff.1 h.at_).1
theorem RowAt.move (h : RowAt w g c L) (hk : w'.heap[g]? = w.heap[g]?) : RowAt w' g c L := ⟨hk.trans h.at_, h.len⟩
theorem RowAt.below (h : RowAt w g c L) (hb : Below w.heap.size w w') : RowAt w' g c L := h.move (hb.block g h.lt)
theorem RowAt.drew (h : RowAt w g c L) (k : Nat) : RowAt (w.drewN k) g c L := ⟨h.at_, h.len⟩
/-- an owned slice that has a block -/
theorem OwnE.row (h : OwnE w base (.slice (some ⟨g, 0, none⟩) n c) es) : ∃ L, RowAt w g c L ∧ L.take (n * 3) = cellsE es ∧ base ≤ g ∧ n ≤ c ∧ c ≤ maxLen ∧ n = es.length := by
  have hl := h.1
  rw [cellsE_length] at hl
  rcases h.2 with ⟨hv, _⟩ | ⟨g', cap, cur, hv, hb, hg, h1, h2, h3, h4⟩
  · cases hv
  · injection hv with e1 e2 e3
    injection e1 with e1
    injection e1 with e1
    subst e1
    exact ⟨cur.toList, ⟨by simpa using hg, by rw [Array.length_toList, h3, e3]⟩, by rw [e2]; exact h4, hb, by rw [e2, e3]; exact h1, by rw [e3]; exact h2, e2⟩
theorem OwnE.of_row (h : RowAt w g c L) (ht : L.take (es.length * 3) = cellsE es) (hb : base ≤ g) (hn : es.length ≤ c) (hm : c ≤ maxLen) : OwnE w base (.slice (some ⟨g, 0, none⟩) es.length c) es :=
  ⟨cellsE_length es, .inr ⟨g, c, L.toArray, rfl, hb, h.at_, hn, hm, by rw [List.size_toArray]; exact h.len, by simpa using ht⟩⟩
/-- the row's cells, read -/
theorem RowAt.cell (h : RowAt w g c L) {j : Nat} {v : Value} (hj : L[j]? = some v) : w.cell? ⟨g, j, none⟩ = some v := by
  unfold World.cell?
  rw [h.at_]
  simpa using hj
/-- cells of a read slice of elisions -/
theorem RE.cells (h : RE w B A fs) (k : Nat) {ad : Addr} (hA : A = some ad) : ∀ j v, (cellsE (fs.take k))[j]? = some v → w.cell? (ad.add j) = some v := fun j v hj => by
  obtain ⟨i, p, hi, q⟩ := cellsE_at _ hj
  rw [List.getElem?_take] at hi
  split at hi
  · obtain ⟨b, o, e, _, c0, c1, c2⟩ := h i p hi
    rw [hA] at e
    cases e
    rw [add_flat]
    rcases q with ⟨rfl, rfl⟩ | ⟨rfl, rfl⟩ | ⟨rfl, rfl⟩
    · exact c0
    · exact c1
    · exact c2
  · cases hi
/-- copy(row[i:], what reads as cs), as a run -/
theorem copy_row_run (ty : TypeId) (h : RowAt w g c L) (i dl dc : Nat) (sp : Option Addr) (sl sc : Nat) (cs : List Value) (hn : cs.length = Nat.min sl dl * 3) (hpos : 0 < cs.length → ∃ ad, sp = some ad ∧ ∀ j v, cs[j]? = some v → w.cell? (ad.add j) = some v)
    (dp : Option Addr) (hd : 0 < cs.length → dp = some ⟨g, i * 3, none⟩) (hfit : i * 3 + cs.length ≤ L.length) (h1 : ∀ v ∈ cs, v.oneCell' = true) :
    ∃ w', (Builtin.copy_ #[22, 22] ty #[.slice dp dl dc, .slice sp sl sc]).run Try.prog w = .ok (goInt (Nat.min sl dl)) w' ∧ RowAt w' g c (splice L (i * 3) cs) ∧ Kept (fun k => k ≠ g) w w' := by
  obtain ⟨i0, hi0, hz0, hz1, hz2⟩ := info_parts info_elision
  by_cases h0 : cs.length = 0
  · obtain rfl : cs = [] := List.eq_nil_of_length_eq_zero h0
    have hm : Nat.min sl dl = 0 := by simp at hn; omega
    refine ⟨w, ?_, ⟨by simpa [splice] using h.at_, by simpa [splice] using h.len⟩, Kept.refl _ _⟩
    rw [hm]
    cases dp <;> cases sp <;> simp [Builtin.copy_, run_underlying Try.underlying22, sizeOf, typeInfo, hi0, hz1, Builtin.lenOf, Builtin.firstCells, hm, storeCells, loadCells, loadCellsFrom]
  · obtain ⟨ad, rfl, hsrc⟩ := hpos (by omega)
    obtain rfl := hd (by omega)
    have hl := run_loadCells_list (P := Try.prog) w ad cs hsrc
    have hst := run_storeCells_at Try.prog g (i * 3) 32 cs 0 L.toArray w h.at_ (by simpa using hfit) h1
    refine ⟨w.setRow g (splice L (i * 3) cs).toArray, ?_, ⟨setRow_heap w g _ _ _ _ h.at_, by rw [length_splice _ _ _ hfit]; exact h.len⟩, ⟨rfl, rfl, rfl, by simp [World.setRow], fun k _ hk => setRow_other w g k _ hk⟩⟩
    have e : (splice L (i * 3) cs).toArray = (L.toArray.toList.take (i * 3 + 0) ++ cs ++ L.toArray.toList.drop (i * 3 + 0 + cs.length)).toArray := by simp [splice]
    rw [e]
    simp [Builtin.copy_, run_underlying Try.underlying22, Builtin.lenOf, Builtin.firstCells, sizeOf, typeInfo, hi0, hz1, ← hn, hl, hst] <;> rfl
/-- clear(row[i:..k elisions]), as a run -/
theorem clear_row_run (ty : TypeId) (h : RowAt w g c L) (i k kc : Nat) (hfit : i + k ≤ c) (dp : Option Addr) (hd : 0 < k → dp = some ⟨g, i * 3, none⟩) :
    ∃ v w' Z, (Builtin.clear_ #[22] ty #[.slice dp k kc]).run Try.prog w = .ok v w' ∧ RowAt w' g c (splice L (i * 3) Z) ∧ Z.length = k * 3 ∧ Kept (fun k => k ≠ g) w w' := by
  obtain ⟨i0, hi0, hz0, hz1, hz2⟩ := info_parts info_elision
  by_cases h0 : k = 0
  · subst h0
    refine ⟨.tuple #[], w, [], ?_, ⟨by simpa [splice] using h.at_, by simpa [splice] using h.len⟩, rfl, Kept.refl _ _⟩
    cases dp <;> simp [Builtin.clear_, run_underlying Try.underlying22]
  · obtain rfl := hd (by omega)
    obtain ⟨Z, hZ⟩ : ∃ Z, Z = (Builtin.zeroCells (Value.agg #[.string ⟨#[]⟩, .string ⟨#[]⟩, .int .u64 0]).cells k).toList := ⟨_, rfl⟩
    have hzl : Z.length = k * 3 := by rw [hZ, Array.length_toList, size_zeroCells]; rfl
    have hl3 := h.len
    have hfit3 : i * 3 + Z.length ≤ L.length := by omega
    have hone : ∀ v ∈ Z, v.oneCell' = true := fun v hv => by
      rw [hZ] at hv
      have hv' : v ∈ Builtin.zeroCells (Value.agg #[.string ⟨#[]⟩, .string ⟨#[]⟩, .int .u64 0]).cells k := by simpa using hv
      unfold Builtin.zeroCells at hv'
      simp [Value.cells] at hv'
      obtain ⟨a, _, q⟩ := hv'
      have ha : a % 3 = 0 ∨ a % 3 = 1 ∨ a % 3 = 2 := by omega
      rcases ha with ha | ha | ha <;> rw [ha] at q <;> rw [← q] <;> rfl
    have hst := run_storeCells_at Try.prog g (i * 3) 32 Z 0 L.toArray w h.at_ (by simpa using hfit3) hone
    refine ⟨.tuple #[], w.setRow g (splice L (i * 3) Z).toArray, Z, ?_, ⟨setRow_heap w g _ _ _ _ h.at_, by rw [length_splice _ _ _ hfit3]; exact h.len⟩, hzl, ⟨rfl, rfl, rfl, by simp [World.setRow], fun k _ hk => setRow_other w g k _ hk⟩⟩
    have e : (splice L (i * 3) Z).toArray = (L.toArray.toList.take (i * 3 + 0) ++ Z ++ L.toArray.toList.drop (i * 3 + 0 + Z.length)).toArray := by simp [splice]
    rw [e]
    rw [hZ] at hst ⊢
    have hk1 : k ≠ 0 := h0
    simp [Builtin.clear_, run_underlying Try.underlying22, zeroValue, typeInfo, hi0, hz0, hk1, hst]
/-- what a splice leaves -/
theorem splice_take {L cs : List Value} {o k : Nat} (h : k ≤ o) (ho : o ≤ L.length) : (splice L o cs).take k = L.take k := by
  unfold splice
  rw [List.take_append_of_le_length (by rw [List.length_take]; omega), List.take_take, Nat.min_eq_left h]
/-- what stands up to a splice's end -/
theorem splice_upto {L cs : List Value} {o k : Nat} (hk : k = o + cs.length) (ho : o ≤ L.length) : (splice L o cs).take k = L.take o ++ cs := by
  unfold splice
  rw [hk, ← List.append_assoc, List.take_append_of_le_length (by rw [List.length_append, List.length_take]; omega)]
  exact List.take_of_length_le (by rw [List.length_append, List.length_take]; omega)
/-- what stands behind a splice -/
theorem splice_drop {L cs : List Value} {o k : Nat} (hk : o + cs.length ≤ k) (ho : o + cs.length ≤ L.length) : (splice L o cs).drop k = L.drop k := by
  unfold splice
  have e : (L.take o).length = o := by rw [List.length_take]; omega
  have e1 : (L.take o).drop k = [] := List.drop_eq_nil_of_le (by omega)
  have e2 : cs.drop (k - o) = [] := List.drop_eq_nil_of_le (by omega)
  rw [List.drop_append, e, e1, List.drop_append, e2, List.drop_drop, List.nil_append, List.nil_append]
  congr 1
  omega
end
end Go.Proofs.Ytghcfmkmndldoaa
