/-
  What the cards of this seat want besides their walks: the laid word out of the row's list, arguments opened with their bulk, a world for the witness.
-/
import Derived.Test.YtncaaiaffioegaaDoorCards
import Derived.Test.YtncaaiaffioegaaDoorTie
import Derived.Test.YtncaaiaffioegaaDoorNParse2
import Derived.Test.YtncaaiaffioegaaDoorNOrders
import Derived.Stop.LaidErr
import Derived.LaidLaws
import Derived.Lib.SmallJoins
import Derived.ChangeOld
import Derived.ChangeMaps5
import Derived.SliceStrings
import Derived.Deep.Matrix
import Derived.ProofKit
import Derived.OpenShut
import Derived.Deep.DeepHandedRow
namespace Go.Proofs.YtncaaiaffioegaaDoor
open Go.ChangeShapes Go.WideShapes Go.ChangeAt Go.ChangeMaps Go.RowKit Go.Joins

theorem ownKnob_none : ownKnob Tryd.prog.godebug = none := by kernel_rfl
theorem laidOut_true : laidOutB Tryd.prog = true := by kernel_rfl
theorem gSyn : Tryd.prog.globalNamed "strconv.ErrSyntax" = some 0 := by kernel_rfl
theorem gSynType : (Tryd.prog.globals[0]?).map (·.type) = some 58 := by kernel_rfl
theorem cellsES : Tryd.prog.cellsOf 74 = 1 := by kernel_rfl
theorem cellsS : Tryd.prog.cellsOf 9 = 1 := by kernel_rfl
theorem starES : "*" ++ "errors.errorString" = "*errors.errorString" := by decide
theorem rowES (u : TypeId) (h : Tryd.prog.typeName? 3 u = some "*errors.errorString") : u = 72 :=
  typeName_ptr_named (nm := "errors.errorString") (by rw [starES]; kernel_rfl) (by kernel_rfl) (by decide) u (by rw [starES]; exact h)

theorem err_of {W : World} (h : laidMet Tryd.prog Rows.nameOrdersRow.laid W) : Err W := by
  obtain ⟨a, s, hv, _, _, _⟩ := laid_sentinel h.tail.tail.tail.tail gSyn gSynType Tryd.underlying58 rowES Tryd.underlying72 Tryd.underlying74 rfl rfl Tryd.underlying9 cellsES cellsS
  have hc := World.var?_cell gSyn hv 0
  simp only [List.getElem?_toArray, List.getElem?_cons_zero] at hc
  have hlt := World.block_lt_of_cell? W _ hc
  exact ⟨_, _, hc, hlt⟩

section
variable {H : Type} {enc : TypeId × Value → H} {w : World} {base : Nat} {v : Value} {d : DataW H} {p : List MemPlace}
theorem open_str (hok : Value.okWide Tryd.prog w .any base 9 v) (h : DataW.Trod enc Tryd.prog w 0 (fun _ => true) true 9 v d p) : ∃ s : ByteArray, v = .string s ∧ s.size < Rows.uptoBulk d ∧ s.size ≤ maxLen := by
  obtain ⟨s, h1, rfl, _, h2⟩ := open_string Tryd.underlying9 hok h
  refine ⟨s, h1, ?_, h2⟩
  rw [Rows.uptoBulk]
  exact Nat.lt_succ_self _
theorem open_u64 (hok : Value.okWide Tryd.prog w .any base 30 v) (h : DataW.Trod enc Tryd.prog w 0 (fun _ => true) true 30 v d p) : ∃ x : Nat, v = .int .u64 (x : Int) ∧ x < 18446744073709551616 := by
  obtain ⟨a, rfl, _, _, wa⟩ := open_int Tryd.underlying30 hok h
  have ba := bounds_u64 wa
  obtain ⟨x, rfl⟩ := Int.eq_ofNat_of_zero_le ba.1
  exact ⟨x, rfl, by omega⟩
/-- a reading lies below the heap's end -/
theorem trod_lt' {t : TypeId} (h : DataW.Trod enc Tryd.prog w 0 (fun _ => true) true t v d p) : ∀ x ∈ p, x.block < w.heap.size := by
  obtain ⟨m, hm⟩ := h
  exact DataW.trod_lt m _ _ _ hm
theorem bulk_strs : ∀ ls : List ByteArray, Rows.uptoBulkAll (H := H) (strs ls) = sizes ls + ls.length
  | [] => rfl
  | s :: ls => by
    have ih := bulk_strs ls
    show Rows.uptoBulk (H := H) (.lit (.string s.data.toList)) + Rows.uptoBulkAll (H := H) (strs ls) = _
    rw [ih, Rows.uptoBulk]
    have h2 : s.data.toList.length = s.size := rfl
    simp only [sizes, List.map_cons, List.sum_cons, List.length_cons]
    omega
theorem open_strs (hok : Value.okWide Tryd.prog w .any base 31 v) (h : DataW.Trod enc Tryd.prog w 0 (fun _ => true) true 31 v d p) :
    ∃ (A : Option Addr) (ls : List ByteArray) (c : Nat), v = .slice A ls.length c ∧ RS w w.heap.size A ls ∧ sizes ls + ls.length ≤ Rows.uptoBulk d := by
  obtain ⟨a0, len, cap, rfl⟩ := okWide_slice Tryd.underlying31 hok
  obtain ⟨fuel, hf⟩ := h
  rcases open_strings Tryd.underlying31 Tryd.underlying9 (by kernel_rfl) hf with ⟨hcs, _⟩ | ⟨x, l, c, ss, hcs, _, hl, hm, hz, hd, hcell, hwz⟩
  · simp [Value.cells] at hcs
    obtain ⟨rfl, rfl, rfl⟩ := hcs
    exact ⟨none, [], 0, rfl, fun k z hz => by simp at hz, by simp [sizes]⟩
  · simp [Value.cells] at hcs
    obtain ⟨rfl, rfl, rfl⟩ := hcs
    have hz' : ss.length = cap := by simpa using hz
    have hlen : (ss.take len).length = len := by simp; omega
    refine ⟨some x, ss.take len, cap, by rw [hlen], fun k z hz1 => ?_, ?_⟩
    · rw [List.getElem?_take] at hz1
      split at hz1
      · have hk : k < ss.length := (List.getElem?_eq_some_iff.1 hz1).1
        have hc := hcell k hk
        have hg : ss.getD k ByteArray.empty = z := by simp [List.getD, hz1]
        rw [hg] at hc
        have hlt := World.block_lt_of_cell? w _ hc
        rw [add_block] at hlt
        have hs := World.cell?_spot (hcell 0 (by omega))
        obtain ⟨b, o, sp⟩ := x
        have hs' : sp = none := by simpa [Addr.add] using hs
        subst hs'
        rw [add_flat] at hc
        exact ⟨b, o, rfl, hlt, hc⟩
      · cases hz1
    · simp only [Prod.mk.injEq] at hd
      rw [hd.1, Rows.uptoBulk, bulk_strs]
      omega
end

/-- a world for the witness: the five listed variables as their initialisers lay them -/
def tabCells (d : DataW Unit) : Array Value := match d with | .agg ps => (ps.map fun x => match x with | .lit l => l.value | _ => .nilIface).toArray | _ => #[]
noncomputable def low : Nat := (World.holding Tryd.prog default ⟨#[], #[], []⟩).heap.size
def putCells (cs : Array Value) : Obj → Obj
  | .cells _ t frozen => .cells cs t frozen
  | o => o
noncomputable def laidWorld (os : Os) : World :=
  let w0 := World.holding Tryd.prog os ⟨#[.cells #[.string ⟨#[105, 110, 118, 97, 108, 105, 100, 32, 115, 121, 110, 116, 97, 120]⟩] 74, .cells #[.string ⟨#[118, 97, 108, 117, 101, 32, 111, 117, 116, 32, 111, 102, 32, 114, 97, 110, 103, 101]⟩] 74], #[], []⟩
  { w0 with heap := (((((w0.heap.modify 0 (putCells #[.iface 72 (.pointer (some ⟨low, 0, none⟩))])).modify
      1 (putCells #[.iface 72 (.pointer (some ⟨low + 1, 0, none⟩))])).modify
      2 (putCells (tabCells Rows.laid_internal_strconv_uint64pow10))).modify
      3 (putCells (tabCells Rows.laid_math_bits_deBruijn32tab))).modify
      4 (putCells (tabCells Rows.laid_math_bits_deBruijn64tab))) }
theorem laid_met (os : Os) (args : Array Value) : laidMet Tryd.prog Rows.nameOrdersRow.laid ((laidWorld os).forCall (fun _ _ => 0) ⟨#[], args, []⟩).memory :=
  laidMet_of_run' 70 (by kernel_rfl) (by kernel_rfl)
end Go.Proofs.YtncaaiaffioegaaDoor
