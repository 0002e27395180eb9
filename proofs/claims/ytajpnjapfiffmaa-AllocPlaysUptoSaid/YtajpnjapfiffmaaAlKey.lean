/-
  Units as keys of maps.
-/
import Derived.Test.YtajpnjapfiffmaaOwnV
import Derived.Maps.OwnSet
import Derived.Maps.RangeWalk
import Derived.Maps.Views
import Derived.DeepKeys4
namespace Go.Proofs.Ytajpnjapfiffmaa
open Go.RowKit Go.Maps

/-- a unit -/
def uV (d z : Int) : Value := .agg #[.int .i64 d, .int .i64 z]
/-- a number that an int holds -/
def I64 (x : Int) : Prop := -9223372036854775808 ≤ x ∧ x ≤ 9223372036854775807
theorem I64.wf {x : Int} (h : I64 x) : (Lit.int .i64 x).wf = true := by
  obtain ⟨h1, h2⟩ := h
  exact WalkArith.wf_i64 (by omega)
theorem keyLaw : Keyed Try.prog 24 := Keyed.of_law (deep_law_laid (by kernel_rfl) (m := 2) (by omega) (of_decide_eq_true (by kernel_rfl)) (by kernel_rfl) (by rw [Try.underlying24]))
/-- how it is told as a key -/
def uk (d z : Int) : Lit := .string (keyBytes [.int .i64 d, .int .i64 z])
theorem keyOf_unit {d z : Int} (hd : I64 d) (hz : I64 z) : keyOf Try.prog 24 (uV d z) = some (uk d z) := by
  have hkt : Try.prog.keyType 24 = true := by kernel_rfl
  have hc : Try.prog.cellsOf 24 = 2 := by kernel_rfl
  have hc1 : Try.prog.cellsOf 3 = 1 := by kernel_rfl
  obtain ⟨m, hm⟩ : ∃ m, Try.prog.types.size = m + 1 := ⟨Try.prog.types.size - 1, by kernel_rfl⟩
  have wa := hd.wf
  have wb := hz.wf
  unfold keyOf uV
  simp only [Try.underlying24]
  rw [if_pos (by simp [hkt, Value.formed, Try.underlying24, hc]), hm]
  unfold Program.keyLits
  simp only [Try.underlying24, Value.cells]
  rw [if_pos (by simp [hc])]
  simp [hc1, Program.keyLits, Try.underlying3, wa, wb]
  rfl
theorem uk_inj {d z d' z' : Int} (hd : I64 d) (hz : I64 z) (hd' : I64 d') (hz' : I64 z') (h : uk d z = uk d' z') : d = d' ∧ z = z' := by
  have := keyLaw.inj (keyOf_unit hd hz) (h ▸ keyOf_unit hd' hz')
  simp [uV] at this
  exact this
end Go.Proofs.Ytajpnjapfiffmaa
