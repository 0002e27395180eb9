/-
  Check, cmp.Or of elisions.
-/
import Derived.Test.YtghcfmkmndldoaaEl3
namespace Go.Proofs.Ytghcfmkmndldoaa
open Go.RowKit Go.Sort Go.Lib

def chkE (e : Ec) : Int := if Op.bytesLess e.1.toList e.2.1.toList = true then 0 else 1
theorem chk_zero {e : Ec} : chkE e = 0 ↔ kl e.1 e.2.1 := by
  unfold chkE kl
  split
  · rename_i h; simp [h]
  · rename_i h; simp [h]
/-- a result that is a cell -/
theorem res_cell {fn : Func} {p : Tmp} {s : TypeId} (h : fn.results = #[.cell p s]) (tmps : Array Value) (w : World) (a : Addr) (u : Value) (ha : tmps.getD p undef = .pointer (some a))
    (h1 : (loadVar s a).run Try.prog w = .ok u w) : (results fn tmps).run Try.prog w = .ok u w := by
  have ha' : tmps[p]?.getD undef = .pointer (some a) := by simpa using ha
  simp [results, h, ha', asAddr, h1]
theorem load_el (w : World) (b : Nat) (e : Ec) (hc : Cells w b 32 (cellE e)) : (loadVar 32 ⟨b, 0, none⟩).run Try.prog w = .ok (eV e) w := by
  have hl := run_loadCells_list (P := Try.prog) (w := w) ⟨b, 0, none⟩ (cellE e) (fun j v hv => by
    rw [add_flat, Nat.zero_add]
    exact hc.cell hv)
  simp only [loadVar, Sem.run_bind, Try.isAgg32, Result.andThen_ok, if_true, Try.sizeOf32]
  rw [show (cellE e).length = 3 from rfl] at hl
  rw [hl]
  rfl
theorem set3 {w : World} {b : Nat} {x y z : Value} (h : Cells w b 32 [x, y, z]) (e : Ec) : Cells (((w.setCell ⟨b, 0, none⟩ (.string e.1)).setCell ⟨b, 1, none⟩ (.string e.2.1)).setCell ⟨b, 2, none⟩ (.int .u64 (e.2.2 : Int))) b 32 (cellE e) :=
  ((h.set 0 _).set 1 _).set 2 _
theorem below_set3 {B : Nat} {a w : World} (h : RowKit.Below B a w) {b : Nat} (hb : B ≤ b) (x y z : Value) : RowKit.Below B a (((w.setCell ⟨b, 0, none⟩ x).setCell ⟨b, 1, none⟩ y).setCell ⟨b, 2, none⟩ z) :=
  ((h.setCell (p := ⟨b, 0, none⟩) hb x).setCell (p := ⟨b, 1, none⟩) hb y).setCell (p := ⟨b, 2, none⟩) hb z
section
set_option maxRecDepth 100000
set_option maxHeartbeats 4000000
theorem check_any (e : Ec) (w : World) : Calls Try.prog 12 #[eV e] w fun r w' => r = .returned (.int .i64 (chkE e)) ∧ Below w.heap.size w w' := by
  have hb : Below w.heap.size w (w.alloc (.cells #[.string e.1, .string e.2.1, .int .u64 (e.2.2 : Int)] 32)) := (Below.refl _ _).alloc (Nat.le_refl _) _
  have Hb := Lib.hid hb
  have Hc : Hid (chkE e = if Op.bytesLess e.1.toList e.2.1.toList = true then 0 else 1) := rfl
  unfold eV
  generalize chkE e = ce at *
  generalize e.1 = lo at *
  generalize e.2.1 = hi at *
  cases h : Op.bytesLess lo.toList hi.toList with
  | true =>
    obtain rfl : ce = 0 := by rw [Hc.out, h]; rfl
    clear hb
    go_enter Try.func12, Try.ntmps12
    go_wp2_with fail
    go_ret
    exact ⟨rfl, Hb.out⟩
  | false =>
    obtain rfl : ce = 1 := by rw [Hc.out, h]; rfl
    clear hb
    go_enter Try.func12, Try.ntmps12
    go_wp2_with fail
    go_ret
    exact ⟨rfl, Hb.out⟩
/-- the first that is not the zero value -/
def orL (es : List Ec) : Ec := (es.find? (fun e => decide (e ≠ zeroE))).getD zeroE
theorem eV_zero : eV zeroE = .agg #[.string ⟨#[]⟩, .string ⟨#[]⟩, .int .u64 0] := rfl
theorem orL_first {es : List Ec} {i : Nat} {e : Ec} (h : ∀ k x, k < i → es[k]? = some x → x = zeroE) (he : es[i]? = some e) (h0 : e ≠ zeroE) : orL es = e := by
  induction es generalizing i with
  | nil => simp at he
  | cons a l ih =>
    unfold orL
    cases i with
    | zero =>
      simp at he
      subst he
      simp [h0]
    | succ i =>
      have ha : a = zeroE := h 0 a (Nat.succ_pos _) rfl
      rw [List.find?_cons_of_neg (by simp [ha])]
      exact ih (i := i) (fun k x hk hx => h (k + 1) x (Nat.succ_lt_succ hk) (by simpa using hx)) (by simpa using he)
theorem orL_none {es : List Ec} (h : ∀ k x, k < es.length → es[k]? = some x → x = zeroE) : orL es = zeroE := by
  unfold orL
  rw [List.find?_eq_none.2]
  · rfl
  · intro x hx
    obtain ⟨k, hk⟩ := List.getElem?_of_mem hx
    simp [h k x (List.getElem?_eq_some_iff.1 hk).1 hk]
/-- are two elisions the same? as the walk asks it -/
theorem zero_parts (e : Ec) : e ≠ zeroE ↔ ¬ ((e.1.toList == []) = true ∧ (e.2.1.toList == []) = true ∧ ((e.2.2 : Int) == 0) = true) := by
  obtain ⟨x, y, z⟩ := e
  unfold zeroE
  constructor
  · rintro h ⟨h1, h2, h3⟩
    refine h ?_
    have e1 : x = ⟨#[]⟩ := array_inj (by rw [list_of_array ⟨#[]⟩]; simpa using h1)
    have e2 : y = ⟨#[]⟩ := array_inj (by rw [list_of_array ⟨#[]⟩]; simpa using h2)
    have e3 : z = 0 := by simpa using h3
    rw [e1, e2, e3]
  · rintro h e
    cases e
    exact h ⟨by rw [list_of_array]; rfl, by rw [list_of_array]; rfl, rfl⟩
theorem zero_eqs {e : Ec} (h : e = zeroE) : (e.1.toList == []) = true ∧ (e.2.1.toList == []) = true ∧ ((e.2.2 : Int) == 0) = true := Decidable.byContradiction fun q => (zero_parts e).2 q h
theorem or_any (es : List Ec) (A : Option Addr) (c : Nat) (w : World) (hl : es.length ≤ 1099511627776) (hr : RE w w.heap.size A es) :
    Calls Try.prog 73 #[.slice A es.length c] w fun r w' => r = .returned (eV (orL es)) ∧ Below w.heap.size w w' := by
  have Hr := Lib.hid hr
  have Hlen : Hid (∀ k : Nat, k < es.length → ∃ u, es[k]? = some u) := fun k hk => ⟨_, List.getElem?_eq_getElem hk⟩
  have hl' : (es.length : Int) ≤ 1099511627776 := by omega
  have Hn : Hid ((∀ k x, k < es.length → es[k]? = some x → x = zeroE) → orL es = zeroE) := orL_none
  have Hf : Hid (∀ i e, (∀ k x, k < i → es[k]? = some x → x = zeroE) → es[i]? = some e → e ≠ zeroE → orL es = e) := fun i e => orL_first
  generalize orL es = r at *
  generalize es.length = n at *
  clear hr hl
  go_enter Try.func73, Try.ntmps73
  go_wp2_with fail
  go_loopw [8] (fun iv wr => ∃ i : Nat, iv = .int .i64 (i : Int) ∧ i ≤ n ∧ Hid ((∀ k x, k < i → es[k]? = some x → x = zeroE) ∧ Cells wr w.heap.size 32 [.string ⟨#[]⟩, .string ⟨#[]⟩, .int .u64 0] ∧ Cells wr (w.heap.size + 1) 32 [.string ⟨#[]⟩, .string ⟨#[]⟩, .int .u64 0] ∧ Below w.heap.size w wr)) (fun iv _ => n - (intOf iv).toNat)
  case atStart =>
    refine ⟨0, rfl, Nat.zero_le _, (fun k x hk => by omega), ?_, ?_, ?_⟩
    · exact (Cells.new w #[.string ⟨#[]⟩, .string ⟨#[]⟩, .int .u64 0] _).alloc _
    · have := Cells.new (w.alloc (.cells #[.string ⟨#[]⟩, .string ⟨#[]⟩, .int .u64 0] 32)) #[.string ⟨#[]⟩, .string ⟨#[]⟩, .int .u64 0] 32
      simpa using this
    · exact ((Below.refl _ _).alloc (Nat.le_refl _) _).alloc (by simp) _
  case round =>
    obtain ⟨i, rfl, hi, hst⟩ := hrel
    by_cases hlt : i < n
    · obtain ⟨e, he⟩ := Hlen.out i hlt
      obtain ⟨b, o, rfl, hblt, x0, x1, x2⟩ := (Hr.out.below hst.out.2.2.2) i e he
      have hlt' : (i : Int) < (n : Int) := by omega
      have hz := zero_parts e
      have He := Lib.hid he
      have C1 := hst.out.2.1.alloc (.cells #[.string e.1, .string e.2.1, .int .u64 (e.2.2 : Int)] 32)
      have D1 := hst.out.2.2.1.alloc (.cells #[.string e.1, .string e.2.1, .int .u64 (e.2.2 : Int)] 32)
      have c0 := C1.cell (i := 0) rfl
      have c1 := C1.cell (i := 1) rfl
      have c2 := C1.cell (i := 2) rfl
      have d0 := D1.cell (i := 0) rfl
      have d1 := D1.cell (i := 1) rfl
      have d2 := D1.cell (i := 2) rfl
      have zc := C1.frozen 0
      have zc1 := C1.frozen 1
      have zc2 := C1.frozen 2
      have HC := Lib.hid C1
      have HB : Hid (Below w.heap.size w (wr.alloc (.cells #[.string e.1, .string e.2.1, .int .u64 (e.2.2 : Int)] 32))) := hst.out.2.2.2.alloc (by have := hst.out.2.2.2.size; omega) _
      clear he hlt C1 D1
      by_cases h0 : e = zeroE
      · obtain ⟨q1, q2, q3⟩ := zero_eqs h0
        have Hs : Hid (∀ k x, k < i + 1 → es[k]? = some x → x = zeroE) := fun k x hk hx => by
          rcases Nat.lt_or_ge k i with q | q
          · exact hst.out.1 k x q hx
          · obtain rfl : k = i := by omega
            rw [He.out] at hx
            rw [← Option.some.inj hx]; exact h0
        clear h0
        go_wp2_with fail
        go_roundw
        case rel => exact ⟨i + 1, by go_num, by omega, Hs.out, hst.out.2.1.alloc _, hst.out.2.2.1.alloc _, HB.out⟩
        case measure => simp [intOf]; omega
      · have Hr2 := Lib.hid (Hf.out i e hst.out.1 He.out h0)
        have hz2 := hz.1 h0
        clear hz h0
        go_wp2_with fail
        all_goals first | exact absurd ⟨by simp only [beq_iff_eq]; assumption, by simp only [beq_iff_eq]; assumption, by simp only [beq_iff_eq]; omega⟩ hz2 | skip
        all_goals
          refine bodyPost_ret (v := eV e) (res_cell rfl _ _ _ _ rfl (load_el _ _ _ ?_)) rfl ⟨by rw [Hr2.out], ?_⟩
          · exact set3 HC.out e
          · exact below_set3 HB.out (Nat.le_refl _) _ _ _
    · obtain rfl : i = n := by omega
      have Hz := Lib.hid (Hn.out hst.out.1)
      have c0 := hst.out.2.1.cell (i := 0) rfl
      have c1 := hst.out.2.1.cell (i := 1) rfl
      have c2 := hst.out.2.1.cell (i := 2) rfl
      have d0 := hst.out.2.2.1.cell (i := 0) rfl
      have d1 := hst.out.2.2.1.cell (i := 1) rfl
      have d2 := hst.out.2.2.1.cell (i := 2) rfl
      have zc := hst.out.2.1.frozen 0
      have zc1 := hst.out.2.1.frozen 1
      have zc2 := hst.out.2.1.frozen 2
      go_wp2_with fail
      refine bodyPost_ret (v := eV zeroE) (res_cell rfl _ _ _ _ rfl (load_el _ _ _ ?_)) rfl ⟨by rw [Hz.out], ?_⟩
      · exact set3 hst.out.2.1 zeroE
      · exact below_set3 hst.out.2.2.2 (Nat.le_refl _) _ _ _
end
end Go.Proofs.Ytghcfmkmndldoaa
