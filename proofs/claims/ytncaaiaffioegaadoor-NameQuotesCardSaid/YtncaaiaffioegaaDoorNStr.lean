/-
  Words for texts: a row of bytes that a conversion made; a string's iterator; append of a text; make with room; bytes as a text.
-/
import Derived.Test.YtncaaiaffioegaaDoorBase
import Derived.Test.YtncaaiaffioegaaDoorNText
import Derived.Lib.OthersKept
import Derived.Lib.AppendStr
import Derived.Lib.Strings
import Derived.Laws.BitsAllLaws
import Derived.BigCall
import Derived.Deep.DeepCutAuto
import Derived.Deep.DeepMust
import Derived.Deep.DeepFit
import Derived.Deep.QuietTactic
import Derived.BigQuiet
namespace Go.Proofs.YtncaaiaffioegaaDoor
open Go.RowKit

/-- THE ROW g BEGINS WITH THE BYTES l, and none of its cells is frozen. -/
def TB (w : World) (g : Nat) (l : List UInt8) : Prop :=
  ∃ (k : Nat) (fz : Nat × Nat), w.heap[g]? = some (.cells (bvs l ++ List.replicate k (Value.int .u8 0)).toArray 5 fz) ∧ l.length + k ≤ fz.1
section
variable {w w' : World} {g : Nat} {l : List UInt8}
theorem TB.lt (h : TB w g l) : g < w.heap.size := by
  obtain ⟨k, fz, h, _⟩ := h
  exact (Array.getElem?_eq_some_iff.1 h).1
theorem TB.cell (h : TB w g l) {i : Nat} (hi : i < l.length) : w.cell? ⟨g, i, none⟩ = some (.int .u8 (l[i].toNat : Int)) := by
  obtain ⟨k, fz, h, _⟩ := h
  have hb : i < (bvs l).length := by rw [bvs_length]; exact hi
  have e : (bvs l ++ List.replicate k (Value.int .u8 0))[i]? = some (.int .u8 (l[i].toNat : Int)) := by
    rw [List.getElem?_append_left hb]
    simp [bvs, hi, bv]
  simp [World.cell?, h, e]
theorem TB.frozen (h : TB w g l) {i : Nat} (hi : i < l.length) : w.frozen? ⟨g, i, none⟩ = false := by
  obtain ⟨k, fz, h, h2⟩ := h
  simp [World.frozen?, h]
  omega
theorem TB.set (h : TB w g l) (i : Nat) (hi : i < l.length) (x : UInt8) : TB (w.setCell ⟨g, i, none⟩ (.int .u8 (x.toNat : Int))) g (l.set i x) := by
  obtain ⟨k, fz, h, h2⟩ := h
  refine ⟨k, fz, ?_, by rw [List.length_set]; exact h2⟩
  simp only [World.setCell, Array.getElem?_modify, h, if_true, Option.map_some]
  congr 2
  apply Array.toList_inj.1
  have : i < (bvs l).length := by simp [bvs]; exact hi
  simp [bvs, List.map_set, bv, List.set_append, hi]
theorem TB.other (h : TB w g l) (e : w'.heap[g]? = w.heap[g]?) : TB w' g l := by
  obtain ⟨k, fz, h, h2⟩ := h
  exact ⟨k, fz, e.trans h, h2⟩
theorem TB.made (w : World) (s : ByteArray) (cap : Nat) (hc : s.size ≤ cap) : TB (w.alloc (.cells (bytesRow s cap) 5 ((bytesRow s cap).size, (bytesRow s cap).size + 1))) w.heap.size s.data.toList := by
  refine ⟨cap - s.size, ((bytesRow s cap).size, (bytesRow s cap).size + 1), ?_, ?_⟩
  · rw [heap_alloc_new]
    congr 2
    simp [bytesRow, bvs]
    intro a _
    rfl
  · simp [bytesRow]
end

theorem iterPos_of {w : World} {k : Nat} {s : ByteArray} {pos : Nat} (h : w.heap[k]? = some (.stringIter s pos)) : w.iterPos k = pos := by simp [World.iterPos, h]

/-- the next rune of a text that is gone through -/
theorem next_at {w : World} {k : Nat} {s : ByteArray} {pos : Nat} (hit : w.heap[k]? = some (.stringIter s pos)) (hp : pos < s.size) (ty : TypeId) :
    (Instr.next (.pointer (some ⟨k, 0, none⟩)) true ty).run Tryd.prog w = .ok (.tuple #[.bool true, .int .i64 pos, .int .i32 (dec (s.data.toList.drop pos)).1]) (w.iterAt k s (pos + (dec (s.data.toList.drop pos)).2)) := by
  have := Lib.run_next_any_at (P := Tryd.prog) w k s pos ty hit hp
  rw [decode_dec s pos hp] at this
  exact this
/-- a byte of a text -/
theorem index_at (s : ByteArray) (i : Nat) (hi : i < s.size) (w : World) : (Instr.index 9 (.string s) (.int .i64 (i : Int))).run Tryd.prog w = .ok (.int .u8 ((s.data.toList.getD i 0).toNat : Int)) w := by
  rw [run_index_string w 9 s .i64 (i : Int) Tryd.underlying9, dif_pos ⟨by omega, by omega⟩]
  congr 3
  have hs : i < s.data.toList.length := by simpa using hi
  rw [List.getD_eq_getElem?_getD, List.getElem?_eq_getElem hs]
  rfl
/-- the rest of a text -/
theorem extract_tail (s : ByteArray) (n : Nat) : (s.extract n s.size).data.toList = s.data.toList.drop n := by
  rw [Lib.extract_data, List.take_of_length_le]
  rw [List.length_drop, Lib.size_eq]
  exact Nat.le_refl _
theorem extract_size (s : ByteArray) (n : Nat) : (s.extract n s.size).size = s.size - n := by rw [Lib.size_eq, extract_tail, List.length_drop, Lib.size_eq]
theorem drop_ne {l : List UInt8} {pos : Nat} (h : pos < l.length) : l.drop pos ≠ [] := by
  intro e
  have := congrArg List.length e
  rw [List.length_drop] at this
  simp at this
  omega

theorem make_cap (n : Nat) (hn : n ≤ 2199023255552) : ∃ cs : Array Value, (∀ (u : World) (base : Nat), base ≤ u.heap.size → Own (u.alloc (.cells cs 5)) base (.slice (some ⟨u.heap.size, 0, none⟩) 0 n) []) ∧
    ∀ u : World, (Instr.makeSlice 36 (.int .i64 0) (.int .i64 (n : Int))).run Tryd.prog u = .ok (.slice (some ⟨u.heap.size, 0, none⟩) 0 n) (u.alloc (.cells cs 5)) := by
  obtain ⟨i0, hi, hz0, hz1, hz2⟩ := info_parts info8
  refine ⟨madeCells #[Value.int .u8 0] n, fun u base hb => World.ownsRow_made u _ n hb (by simp only [maxLen]; omega) (by rw [size_madeCells]; omega), fun u => ?_⟩
  have h := run_make (P := Tryd.prog) u 36 5 i0 (.int .u8 0) Tryd.underlying36 hi hz0 .i64 .i64 0 (n : Int) (by omega) (by omega) (by rw [hz2]; omega) (by omega)
  rw [h]
  simp only [Int.toNat_natCast, hz1, Nat.mul_one]
  rfl

theorem push_all (l : List UInt8) : ∀ s : ByteArray, (l.map fun x => (x.toNat : Int)).foldl (fun r n => r.push (UInt8.ofNat n.toNat)) s = ⟨s.data ++ l.toArray⟩ := by
  induction l with
  | nil => intro s; simp
  | cons x l ih =>
    intro s
    simp only [List.map_cons, List.foldl_cons, ih, Int.toNat_natCast, UInt8.ofNat_toNat]
    simp [ByteArray.push]
/-- string(b) -/
theorem text_run (w : World) (B : Nat) (A : Option Addr) (l : List UInt8) (c : Nat) (hr : RB w B A l) :
    (convert 36 9 (.slice A l.length c)).run Tryd.prog w = .ok (.string ⟨l.toArray⟩) w := by
  rw [run_convert_bytes_string w _ _ _ _ _ _ Tryd.underlying36 Tryd.underlying5 Tryd.underlying9]
  rcases A with _ | ad
  · have h0 : l = [] := by
      rcases l with _ | ⟨x, l⟩
      · rfl
      · obtain ⟨ad, e, _⟩ := hr 0 x rfl
        cases e
    subst h0
    simp [Conv.bytesToString, Sem.run_pure]
    rfl
  · have hl := run_loadCells_list (P := Tryd.prog) (w := w) ad (bvs l) (fun j v hv => by
      simp only [bvs, List.getElem?_map, Option.map_eq_some_iff] at hv
      obtain ⟨y, hy, rfl⟩ := hv
      obtain ⟨ad', e, _, hc⟩ := hr j y hy
      cases e
      exact hc)
    rw [bvs_length] at hl
    have := run_bytesToString (P := Tryd.prog) w ad l.length c (l.map fun x => (x.toNat : Int)) (by rw [hl]; simp [bvs, bv, Function.comp_def])
    rw [this, push_all]
    simp


/-- append(v, s...): v the call's own, s a text -/
theorem app_text {w : World} {ops : Array Oper} {rest : List Oper} {o : Oper} {a : Act} {Q : Exit → Act → World → Prop} (hgd : o.guard = none) (sl x : Operand)
    (ho : o.op = .call { callee := .builtin .append, args := #[sl, x], argTypes := #[36, 9] })
    (base : Nat) (v : Value) (l : List UInt8) (hs : a.eval sl = v) (hown : Own w base v l) (s : ByteArray) (hx : a.eval x = .string s)
    (hlen : l.length + s.size ≤ 140737488355327) (hbase : base ≤ w.heap.size)
    (h : ∀ v' w', Own w' base v' (l ++ s.data.toList) → Below base w w' → wpList Tryd.prog ops Q rest (a.put o.dst v') w') :
    wpList Tryd.prog ops Q (o :: rest) a w := by
  obtain ⟨i0, hi0, hz0, hz1, hz2⟩ := info_parts info8
  refine Lib.wpList_append_own_string w hgd sl x 36 9 ho base 5 i0 Tryd.underlying36 Tryd.underlying9 hi0 hz0 hz1 hz2 v l.length (bvs l) hs hown s hx (by simp only [maxLen]; omega) (by omega) hbase ?_
  intro v' w' h1 h2 _
  have e : bvs l ++ Lib.strCells s = bvs (l ++ s.data.toList) := by simp [bvs, bv, Lib.strCells]
  rw [e] at h1
  refine h v' w' ?_ ((Below.refl _ _).grown h2 hbase hown.ge)
  show World.ownsRow _ _ _ _ _ _ _
  rw [List.length_append]
  exact h1
end Go.Proofs.YtncaaiaffioegaaDoor
