/-
  The log's errors: a fault that wraps an Errno; what errors.Is and errors.As tell of it.
-/
import Derived.Test.YtkjogkmdldplgaaDoorOwnV
import Derived.LaidEql
import Derived.Stop.Asserts
import Derived.RowKitTokens
import Derived.Lib.IfaceEq
namespace Go.Proofs.YtkjogkmdldplgaaDoor
open Go.RowKit Go.Extern.Stop Go.Stop Go.Extern

/-- AN ERROR THAT WRAPS THE ERRNO c: a pointer to a fault's two cells. -/
def FaultAt (w : World) (fp : Nat) (c : Int) : Prop := ∃ s, w.cell? ⟨fp, 0, none⟩ = some (.string s) ∧ w.cell? ⟨fp, 1, none⟩ = some (.iface 24 (.int .i64 c))
def faultV (fp : Nat) : Value := .iface 63 (.pointer (some ⟨fp, 0, none⟩))

section
set_option maxRecDepth 20000
set_option maxHeartbeats 1000000
theorem wrap_ok (s : Value) (w : World) :
    Calls Tryd.prog 37 #[s, .int .i64 0] w fun e w' => e = .returned .nilIface ∧ w = w' := by
  go_enter Tryd.func37, Tryd.ntmps37
  go_wp2_with fail
  go_ret
  exact ⟨rfl, rfl⟩
theorem wrap_bad (s : Array UInt8) (c : Int) (w : World) (hc : c ≠ 0) :
    Calls Tryd.prog 37 #[.string ⟨s⟩, .int .i64 c] w fun e w' => e = .returned (faultV w.heap.size) ∧ FaultAt w' w.heap.size c ∧ Below w.heap.size w w' := by
  have Hs : Hid (FaultAt (w.alloc (.cells #[.string ⟨s⟩, .iface 24 (.int .i64 c)] 65)) w.heap.size c) := ⟨_, (Cells.new w _ _).cell (i := 0) rfl, (Cells.new w _ _).cell (i := 1) rfl⟩
  have hb : (c == 0) = false := by simpa using hc
  go_enter Tryd.func37, Tryd.ntmps37
  go_wp2_with fail
  go_ret
  exact ⟨rfl, Hs.out, (Below.refl _ w).alloc (Nat.le_refl _) _⟩
theorem unwrap_any (fp : Nat) (c : Int) (w : World) (h : FaultAt w fp c) :
    Calls Tryd.prog 88 #[.pointer (some ⟨fp, 0, none⟩)] w fun e w' => e = .returned (.iface 24 (.int .i64 c)) ∧ w = w' := by
  obtain ⟨s, h0, h1⟩ := h
  go_enter Tryd.func88, Tryd.ntmps88
  go_wp2_with fail
  go_ret
  exact ⟨rfl, rfl⟩

/-! closed facts on the entries for internal/reflectlite, and on the method sets -/
theorem rf_typeOf (v : Value) (w : World) : (ReflectliteType.typeOf #[.iface 24 v]).run Tryd.prog w = .ok (.iface 124 (.agg #[.pointer (some ⟨1, 24, none⟩)])) w := by kernel_rfl
theorem rf_typeOfF (v : Value) (w : World) : (ReflectliteType.typeOf #[.iface 63 v]).run Tryd.prog w = .ok (.iface 124 (.agg #[.pointer (some ⟨1, 63, none⟩)])) w := by kernel_rfl
noncomputable def cmpF : Array Value → Sem Value := ReflectliteType.method fun t => do Rtype.noPackHeld "Comparable" t; pure (.bool (← typeInfo t).comparable)
theorem rf_comparable (w : World) : (cmpF #[.agg #[.pointer (some ⟨1, 24, none⟩)]]).run Tryd.prog w = .ok (.bool true) w := by kernel_rfl
theorem rf_mComparable (v : Value) (w : World) : (Go.method 280 124 v "Comparable").run Tryd.prog w = .ok (94, v) w := by kernel_rfl
theorem rf_noIs (v : Value) (xT : TypeId) (w : World) : (Instr.typeAssert (.iface 63 v) xT 126 true).run Tryd.prog w = .ok (.tuple #[.nilIface, .bool false]) w := run_typeAssert_lacksB Tryd.underlying126 (by kernel_rfl) (by kernel_rfl) v xT w
theorem rf_hasUnwrap (v : Value) (xT : TypeId) (w : World) : (Instr.typeAssert (.iface 63 v) xT 129 true).run Tryd.prog w = .ok (.tuple #[.iface 63 v, .bool true]) w := run_typeAssert_hasB Tryd.underlying129 (by kernel_rfl) v xT w
theorem rf_mUnwrap (v : Value) (w : World) : (Go.method 280 63 v "Unwrap").run Tryd.prog w = .ok (88, v) w := by kernel_rfl

/-- errors.Is(a fault that wraps ErrForm, ErrForm) -/
theorem is_form (fp : Nat) (w : World) (h : FaultAt w fp 24) :
    Calls Tryd.prog 39 #[faultV fp, .iface 24 (.int .i64 24)] w fun e w' => e = .returned (.bool true) ∧ w = w' := by
  have h8 := @run_callFunc_extern Tryd.prog 49 _ Extern.ReflectliteType.typeOf Tryd.func49 (by kernel_rfl) (by kernel_rfl) (by kernel_rfl) (by kernel_rfl)
  have h32 := @run_callFunc_extern Tryd.prog 94 _ cmpF Tryd.func94 (by kernel_rfl) (by kernel_rfl) (by kernel_rfl) (by kernel_rfl)
  have tT := rf_typeOf
  have cT := rf_comparable
  have mR := rf_mComparable
  have nW := rf_noIs
  have uW := rf_hasUnwrap
  have mU := rf_mUnwrap
  have heq := fun W => Lib.run_eql_iface_int (P := Tryd.prog) W (t := 31) (tx := 24) (k := .i64) (q := .i64) 24 24 Tryd.underlying31 (by kernel_rfl) Tryd.underlying24
  have hty := run_eql_iface_types (P := Tryd.prog) 63 24 (.pointer (some ⟨fp, 0, none⟩)) (.int .i64 24) Tryd.underlying31 (by decide) w
  obtain ⟨s, h0, h1⟩ := h
  unfold faultV
  go_enter Tryd.func39, Tryd.ntmps39
  go_wp2
  refine wp_loop_rounds 2 ?_
  rw [rounds_succ]
  go_wp2
  rw [rounds_succ]
  go_wp2
  go_ret
  exact ⟨rfl, rfl⟩


/-! errors.As at a *api.Errno -/
noncomputable def kindF : Array Value → Sem Value := ReflectliteType.abiMethod fun t => do pure (.int .u8 (← Rtype.kind t))
noncomputable def typeF : Array Value → Sem Value := ReflectliteValue.methodAny (ReflectliteValue.valueError "reflectlite.Value.Type" 0) (fun t _ _ _ => ReflectliteType.toType t)
noncomputable def isNilF : Array Value → Sem Value := ReflectliteValue.method (ReflectliteValue.valueError "reflectlite.Value.IsNil" 0) ReflectliteValue.isNil
noncomputable def elemVF : Array Value → Sem Value := ReflectliteValue.method (ReflectliteValue.valueError "reflectlite.Value.Elem" 0) ReflectliteValue.elem
noncomputable def elemTF : Array Value → Sem Value := ReflectliteType.method ReflectliteType.elem
noncomputable def implF : Array Value → Sem Value := ReflectliteType.relation "Implements" ReflectliteType.implements_
noncomputable def asgF : Array Value → Sem Value := ReflectliteType.relation "AssignableTo" ReflectliteType.assignableTo
noncomputable def vofF : Array Value → Sem Value := fun args => ReflectliteValue.unpack (args.getD 0 (.tuple #[]))
noncomputable def setF : Array Value → Sem Value := ReflectliteValue.set
def hd (t : Nat) : Value := .agg #[.pointer (some ⟨1, t, none⟩)]
def rv (t : Nat) (a : Addr) (fl : Int) : Value := .agg #[.pointer (some ⟨1, t, none⟩), .pointer (some a), .int .u64 fl]
theorem rf_vofP (t : Addr) (w : World) : (vofF #[.iface 96 (.pointer (some t))]).run Tryd.prog w = .ok (.agg #[.pointer (some ⟨1, 96, none⟩), .pointer (some ⟨w.heap.size, 0, none⟩), .int .u64 150]) (w.alloc (.cells #[.pointer (some t)] 96)) := by kernel_rfl
theorem rf_typeP (a : Addr) (w : World) : (typeF #[.agg #[.pointer (some ⟨1, 96, none⟩), .pointer (some a), .int .u64 150]]).run Tryd.prog w = .ok (.iface 124 (.agg #[.pointer (some ⟨1, 96, none⟩)])) w := by kernel_rfl
theorem rf_mKind (h : Value) (w : World) : (Go.method 280 124 (.agg #[h]) "Kind").run Tryd.prog w = .ok (82, h) w := by kernel_rfl
theorem rf_kindP (w : World) : (kindF #[.pointer (some ⟨1, 96, none⟩)]).run Tryd.prog w = .ok (.int .u8 22) w := by kernel_rfl
theorem rf_kindE (w : World) : (kindF #[.pointer (some ⟨1, 24, none⟩)]).run Tryd.prog w = .ok (.int .u8 2) w := by kernel_rfl
/-- a method of reflectlite's Values asks for their parts first -/
theorem method_shape (z : Sem Value) (f : TypeId → Addr → Nat → Nat → Sem Value) (v : Value) :
    ∃ K : Option (TypeId × Addr × Nat) → Sem Value, ReflectliteValue.method z f #[v] = (ReflectliteValue.parts v >>= K) ∧ ∀ t a fl, K (some (t, a, fl)) = f t a fl (fl % 32) := ⟨_, rfl, fun _ _ _ => rfl⟩
theorem rf_partsP (a : Addr) (w : World) : (ReflectliteValue.parts (.agg #[.pointer (some ⟨1, 96, none⟩), .pointer (some a), .int .u64 150])).run Tryd.prog w = .ok (some (96, a, 150)) w := by kernel_rfl
theorem rf_isNil (a p : Addr) (W : World) (ha : W.cell? a = some (.pointer (some p))) :
    (isNilF #[.agg #[.pointer (some ⟨1, 96, none⟩), .pointer (some a), .int .u64 150]]).run Tryd.prog W = .ok (.bool false) W := by
  unfold isNilF
  obtain ⟨K, hK, hs⟩ := method_shape (ReflectliteValue.valueError "reflectlite.Value.IsNil" 0) ReflectliteValue.isNil (.agg #[.pointer (some ⟨1, 96, none⟩), .pointer (some a), .int .u64 150])
  rw [hK]
  simp only [Sem.run_bind, rf_partsP, Result.andThen]
  rw [hs]
  simp [ReflectliteValue.isNil, loadVar, isAgg, underlying, Tryd.underlying96, ha, Result.andThen]
theorem rf_mElem (h : Value) (w : World) : (Go.method 280 124 (.agg #[h]) "Elem").run Tryd.prog w = .ok (95, .agg #[h]) w := by kernel_rfl
theorem rf_mImpl (h : Value) (w : World) : (Go.method 280 124 (.agg #[h]) "Implements").run Tryd.prog w = .ok (96, .agg #[h]) w := by kernel_rfl
theorem rf_mAsg (h : Value) (w : World) : (Go.method 280 124 (.agg #[h]) "AssignableTo").run Tryd.prog w = .ok (93, .agg #[h]) w := by kernel_rfl
theorem rf_elemT (w : World) : (elemTF #[.agg #[.pointer (some ⟨1, 96, none⟩)]]).run Tryd.prog w = .ok (.iface 124 (.agg #[.pointer (some ⟨1, 24, none⟩)])) w := by kernel_rfl
theorem rf_impl (w : World) : (implF #[.agg #[.pointer (some ⟨1, 24, none⟩)], .iface 124 (.agg #[.pointer (some ⟨1, 31, none⟩)])]).run Tryd.prog w = .ok (.bool true) w := by kernel_rfl
theorem rf_asgE (w : World) : (asgF #[.agg #[.pointer (some ⟨1, 24, none⟩)], .iface 124 (.agg #[.pointer (some ⟨1, 24, none⟩)])]).run Tryd.prog w = .ok (.bool true) w := by kernel_rfl
theorem rf_asgF (w : World) : (asgF #[.agg #[.pointer (some ⟨1, 63, none⟩)], .iface 124 (.agg #[.pointer (some ⟨1, 24, none⟩)])]).run Tryd.prog w = .ok (.bool false) w := by kernel_rfl
theorem rf_vofE (c : Int) (w : World) : (vofF #[.iface 24 (.int .i64 c)]).run Tryd.prog w = .ok (.agg #[.pointer (some ⟨1, 24, none⟩), .pointer (some ⟨w.heap.size, 0, none⟩), .int .u64 130]) (w.alloc (.cells #[.int .i64 c] 24)) := by kernel_rfl
theorem rf_elemOf (w : World) : (Rtype.elem? 96).run Tryd.prog w = .ok (some 24) w := by kernel_rfl
theorem rf_mk (p : Addr) (w : World) : (ReflectliteValue.mk 24 p ReflectliteValue.flagAddr).run Tryd.prog w = .ok (.agg #[.pointer (some ⟨1, 24, none⟩), .pointer (some p), .int .u64 386]) w := by kernel_rfl
theorem rf_elemV (a p : Addr) (W : World) (ha : W.cell? a = some (.pointer (some p))) :
    (elemVF #[.agg #[.pointer (some ⟨1, 96, none⟩), .pointer (some a), .int .u64 150]]).run Tryd.prog W
      = .ok (.agg #[.pointer (some ⟨1, 24, none⟩), .pointer (some p), .int .u64 386]) W := by
  unfold elemVF
  obtain ⟨K, hK, hs⟩ := method_shape (ReflectliteValue.valueError "reflectlite.Value.Elem" 0) ReflectliteValue.elem (.agg #[.pointer (some ⟨1, 96, none⟩), .pointer (some a), .int .u64 150])
  rw [hK]
  simp only [Sem.run_bind, rf_partsP, Result.andThen]
  rw [hs]
  simp [ReflectliteValue.elem, loadVar, isAgg, underlying, Tryd.underlying96, ha, Result.andThen, rf_elemOf, rf_mk]
theorem rf_partsA (a : Addr) (w : World) : (ReflectliteValue.parts (.agg #[.pointer (some ⟨1, 24, none⟩), .pointer (some a), .int .u64 386])).run Tryd.prog w = .ok (some (24, a, 386)) w := by kernel_rfl
theorem rf_partsB (a : Addr) (w : World) : (ReflectliteValue.parts (.agg #[.pointer (some ⟨1, 24, none⟩), .pointer (some a), .int .u64 130])).run Tryd.prog w = .ok (some (24, a, 130)) w := by kernel_rfl
theorem rf_direct (w : World) : (Rtype.directlyAssignable 24 24).run Tryd.prog w = .ok true w := by kernel_rfl
/-- what Set does where both Values are Errnos, the first one addressable: a load and a store -/
theorem set_shape (ta b : Addr) : ∃ (K1 : Option (TypeId × Addr × Nat) → Option (TypeId × Addr × Nat) → Sem Value) (K2 : Value → Bool → Sem Value),
    setF #[.agg #[.pointer (some ⟨1, 24, none⟩), .pointer (some ta), .int .u64 386], .agg #[.pointer (some ⟨1, 24, none⟩), .pointer (some b), .int .u64 130]] =
      (ReflectliteValue.parts (.agg #[.pointer (some ⟨1, 24, none⟩), .pointer (some ta), .int .u64 386]) >>= fun p => ReflectliteValue.parts (.agg #[.pointer (some ⟨1, 24, none⟩), .pointer (some b), .int .u64 130]) >>= fun q => K1 p q) ∧
    K1 (some (24, ta, 386)) (some (24, b, 130)) = (loadVar 24 b >>= fun val => Rtype.directlyAssignable 24 24 >>= fun d => K2 val d) ∧
    ∀ val, K2 val true = (storeVar 24 ta val >>= fun _ => pure (.tuple #[])) := ⟨_, _, rfl, rfl, fun _ => rfl⟩
theorem rf_set (ta b : Addr) (c : Int) (old : Value) (W : World) (hb : W.cell? b = some (.int .i64 c)) (ht : W.cell? ta = some old) (hf : W.frozen? ta = false) :
    (setF #[.agg #[.pointer (some ⟨1, 24, none⟩), .pointer (some ta), .int .u64 386], .agg #[.pointer (some ⟨1, 24, none⟩), .pointer (some b), .int .u64 130]]).run Tryd.prog W
      = .ok (.tuple #[]) (W.setCell ta (.int .i64 c)) := by
  obtain ⟨K1, K2, e1, e2, e3⟩ := set_shape ta b
  rw [e1]
  simp only [Sem.run_bind, rf_partsA, rf_partsB, Result.andThen]
  rw [e2]
  simp only [Sem.run_bind]
  have hl : (loadVar 24 b).run Tryd.prog W = .ok (.int .i64 c) W := by simp [loadVar, isAgg, underlying, Tryd.underlying24, hb, Result.andThen]
  rw [hl]
  simp only [Result.andThen, rf_direct]
  rw [e3]
  simp [isAgg, underlying, Tryd.underlying24, Result.andThen, storeVar, Value.cells, storeCells, Addr.add]
  rw [run_store Tryd.prog W ta _ _ (by rfl)]
  simp [ht, hf]
theorem rf_noAs (v : Value) (xT : TypeId) (w : World) : (Instr.typeAssert (.iface 63 v) xT 136 true).run Tryd.prog w = .ok (.tuple #[.nilIface, .bool false]) w := run_typeAssert_lacksB Tryd.underlying136 (by kernel_rfl) (by kernel_rfl) v xT w

/-- WHERE THE LIBRARY's VARIABLE LIES -/
def ErrType (w : World) : Prop := w.cell? ⟨0, 0, none⟩ = some (.iface 124 (.agg #[.pointer (some ⟨1, 31, none⟩)]))
/-- errors.As(nil, target). -/
theorem as_nil (t : Value) (w : World) :
    Calls Tryd.prog 45 #[.nilIface, t] w fun e w' => e = .returned (.bool false) ∧ w' = w := by
  go_enter Tryd.func45, Tryd.ntmps45
  go_wp2
  go_ret
  exact ⟨rfl, rfl⟩
theorem errno_nil (w : World) :
    Calls Tryd.prog 25 #[.nilIface] w fun e w' => e = .returned (.int .i64 0) ∧ Below w.heap.size w w' := by
  go_enter Tryd.func25, Tryd.ntmps25
  go_wp2_with (go_at_call 45; refine (as_nil _ _).mono ?_; rintro e w1 ⟨rfl, rfl⟩)
  go_ret
  exact ⟨rfl, by first | exact (Below.refl _ w).alloc (Nat.le_refl _) _ | exact ((Below.refl _ w).alloc (Nat.le_refl _) _).setCell (Nat.le_refl _) _⟩

/-- errors.As(a fault that wraps c, a pointer to an Errno): true, and the Errno is c. -/
theorem as_fault (fp tb : Nat) (c : Int) (old : Value) (w : World) (hg : ErrType w) (h : FaultAt w fp c) (hT : Cells w tb 24 [old]) :
    Calls Tryd.prog 45 #[faultV fp, .iface 96 (.pointer (some ⟨tb, 0, none⟩))] w fun ev w' => ev = .returned (.bool true) ∧ w'.cell? ⟨tb, 0, none⟩ = some (.int .i64 c) ∧ Kept (fun b => b ≠ tb) w w' := by
  have ht0 : w.cell? ⟨tb, 0, none⟩ = some old := hT.cell rfl
  have hf0 := hT.frozen 0
  have hVof := @run_callFunc_extern Tryd.prog 54 _ vofF Tryd.func54 (by kernel_rfl) (by kernel_rfl) (by kernel_rfl) (by kernel_rfl)
  have hType := @run_callFunc_extern Tryd.prog 55 _ typeF Tryd.func55 (by kernel_rfl) (by kernel_rfl) (by kernel_rfl) (by kernel_rfl)
  have hIsNil := @run_callFunc_extern Tryd.prog 56 _ isNilF Tryd.func56 (by kernel_rfl) (by kernel_rfl) (by kernel_rfl) (by kernel_rfl)
  have hKind := @run_callFunc_extern Tryd.prog 82 _ kindF Tryd.func82 (by kernel_rfl) (by kernel_rfl) (by kernel_rfl) (by kernel_rfl)
  have hElemT := @run_callFunc_extern Tryd.prog 95 _ elemTF Tryd.func95 (by kernel_rfl) (by kernel_rfl) (by kernel_rfl) (by kernel_rfl)
  have hImpl := @run_callFunc_extern Tryd.prog 96 _ implF Tryd.func96 (by kernel_rfl) (by kernel_rfl) (by kernel_rfl) (by kernel_rfl)
  have hTypeOf := @run_callFunc_extern Tryd.prog 49 _ ReflectliteType.typeOf Tryd.func49 (by kernel_rfl) (by kernel_rfl) (by kernel_rfl) (by kernel_rfl)
  have hAsg := @run_callFunc_extern Tryd.prog 93 _ asgF Tryd.func93 (by kernel_rfl) (by kernel_rfl) (by kernel_rfl) (by kernel_rfl)
  have hElemV := @run_callFunc_extern Tryd.prog 62 _ elemVF Tryd.func62 (by kernel_rfl) (by kernel_rfl) (by kernel_rfl) (by kernel_rfl)
  have hSet := @run_callFunc_extern Tryd.prog 63 _ setF Tryd.func63 (by kernel_rfl) (by kernel_rfl) (by kernel_rfl) (by kernel_rfl)
  have e1 := rf_vofP
  have e2 := rf_typeP
  have e3 := rf_mKind
  have e4 := rf_kindP
  have e5 := rf_kindE
  have e6 := rf_mElem
  have e7 := rf_mImpl
  have e8 := rf_mAsg
  have e9 := rf_elemT
  have e10 := rf_impl
  have e11 := rf_asgE
  have e12 := rf_asgF
  have e13 := rf_vofE
  have e14 := rf_typeOf
  have e15 := rf_typeOfF
  have e16 := rf_noAs
  have e17 := rf_hasUnwrap
  have e18 := rf_mUnwrap
  obtain ⟨s, h0, h1⟩ := h
  have hg0 : w.cell? ⟨0, 0, none⟩ = some (.iface 124 (.agg #[.pointer (some ⟨1, 31, none⟩)])) := hg
  obtain ⟨w1, hw1⟩ : ∃ w1, w1 = w.alloc (.cells #[.pointer (some ⟨tb, 0, none⟩)] 96) := ⟨_, rfl⟩
  obtain ⟨w2, hw2⟩ : ∃ w2, w2 = w1.alloc (.cells #[.pointer (some ⟨1, 96, none⟩), .pointer (some ⟨w.heap.size, 0, none⟩), .int .u64 150] 112) := ⟨_, rfl⟩
  obtain ⟨w3, hw3⟩ : ∃ w3, w3 = w2.alloc (.cells #[.pointer (some ⟨1, 96, none⟩), .pointer (some ⟨w.heap.size, 0, none⟩), .int .u64 150] 112) := ⟨_, rfl⟩
  obtain ⟨w4, hw4⟩ : ∃ w4, w4 = w3.alloc (.cells #[.int .i64 c] 24) := ⟨_, rfl⟩
  have z1 : w1.heap.size = w.heap.size + 1 := by rw [hw1]; simp
  have z2 : w2.heap.size = w.heap.size + 2 := by rw [hw2]; simp [z1]
  have z3 : w3.heap.size = w.heap.size + 3 := by rw [hw3]; simp [z2]
  have k1 : Kept (fun _ => True) w w1 := by rw [hw1]; exact (Kept.refl _ _).alloc _
  have k2 : Kept (fun _ => True) w w2 := by rw [hw2]; exact k1.alloc _
  have k3 : Kept (fun _ => True) w w3 := by rw [hw3]; exact k2.alloc _
  have k4 : Kept (fun _ => True) w w4 := by rw [hw4]; exact k3.alloc _
  have kk : ∀ (W : World), Kept (fun _ => True) w W → ∀ b i u, w.cell? ⟨b, i, none⟩ = some u → W.cell? ⟨b, i, none⟩ = some u := fun W k b i u hu => (World.cell?_of_block (w := w) (k.block b (World.block_lt_of_cell? w ⟨b, i, none⟩ hu) trivial)).trans hu
  have c1 : w1.cell? ⟨w.heap.size, 0, none⟩ = some (.pointer (some ⟨tb, 0, none⟩)) := by rw [hw1]; exact (Cells.new w _ _).cell (i := 0) rfl
  have c2 : w2.cell? ⟨w.heap.size, 0, none⟩ = some (.pointer (some ⟨tb, 0, none⟩)) := by rw [hw2, World.cell?_alloc_lt _ _ ⟨w.heap.size, 0, none⟩ (by show w.heap.size < _; omega)]; exact c1
  have c3 : w3.cell? ⟨w.heap.size, 0, none⟩ = some (.pointer (some ⟨tb, 0, none⟩)) := by rw [hw3, World.cell?_alloc_lt _ _ ⟨w.heap.size, 0, none⟩ (by show w.heap.size < _; omega)]; exact c2
  have c4 : w4.cell? ⟨w.heap.size + 3, 0, none⟩ = some (.int .i64 c) := by rw [hw4, ← z3]; exact (Cells.new w3 _ _).cell (i := 0) rfl
  have f4 : w4.frozen? ⟨tb, 0, none⟩ = false := (World.frozen?_of_block (w := w) (k4.block tb (World.block_lt_of_cell? w ⟨tb, 0, none⟩ ht0) trivial)).trans hf0
  have n8 := rf_isNil ⟨w.heap.size, 0, none⟩ ⟨tb, 0, none⟩ w2 c2
  have el := rf_elemV ⟨w.heap.size, 0, none⟩ ⟨tb, 0, none⟩ w3 c3
  have st := rf_set ⟨tb, 0, none⟩ ⟨w.heap.size + 3, 0, none⟩ c old w4 c4 (kk w4 k4 _ _ _ ht0) f4
  have g2 := kk w2 k2 _ _ _ hg0
  have u0 := kk w3 k3 _ _ _ h0
  have u1 := kk w3 k3 _ _ _ h1
  have Hs : Hid ((w4.setCell ⟨tb, 0, none⟩ (.int .i64 c)).cell? ⟨tb, 0, none⟩ = some (.int .i64 c) ∧ Kept (fun b => b ≠ tb) w (w4.setCell ⟨tb, 0, none⟩ (.int .i64 c))) :=
    ⟨((hT.move (k4.block tb hT.lt trivial)).set 0 (.int .i64 c)).cell (i := 0) rfl, (k4.mono fun _ _ _ => trivial).setCell (fun h => h rfl) _⟩
  have zz : w.heap.size + 1 + 1 + 1 = w.heap.size + 3 := rfl
  subst hw4 hw3 hw2 hw1
  unfold faultV
  go_enter Tryd.func45, Tryd.ntmps45
  go_wp2
  refine wp_loop_rounds 2 ?_
  rw [rounds_succ]
  go_wp2
  rw [rounds_succ]
  go_wp2
  go_ret
  exact ⟨rfl, Hs.out⟩

theorem errno_fault (fp : Nat) (c : Int) (w : World) (hg : ErrType w) (h : FaultAt w fp c) :
    Calls Tryd.prog 25 #[faultV fp] w fun e w' => e = .returned (.int .i64 c) ∧ Below w.heap.size w w' := by
  have hg0 : ErrType (w.alloc (.cells #[.int .i64 0] 24)) := by
    have h0 : w.cell? ⟨0, 0, none⟩ = _ := hg
    show World.cell? _ _ = _
    rw [World.cell?_alloc_lt _ _ _ (World.block_lt_of_cell? w _ h0)]
    exact h0
  have hf : FaultAt (w.alloc (.cells #[.int .i64 0] 24)) fp c := by
    obtain ⟨s, h0, h1⟩ := h
    exact ⟨s, by rw [World.cell?_alloc_lt _ _ _ (World.block_lt_of_cell? w _ h0)]; exact h0, by rw [World.cell?_alloc_lt _ _ _ (World.block_lt_of_cell? w _ h1)]; exact h1⟩
  have Ha := Lib.hid (as_fault fp w.heap.size c (.int .i64 0) _ hg0 hf (Cells.new w _ _))
  have Hb : Hid (∀ w1, Kept (fun b => b ≠ w.heap.size) (w.alloc (.cells #[.int .i64 0] 24)) w1 → Below w.heap.size w w1) := fun w1 hk =>
    ((Below.refl _ w).alloc (Nat.le_refl _) _).trans (hk.to_below (fun b hb => by omega) (by simp))
  clear hg hg0 h hf
  go_enter Tryd.func25, Tryd.ntmps25
  go_wp2_with (go_at_call 45; refine Ha.out.mono ?_; rintro e w1 ⟨rfl, q1, q2⟩; have Hk := Lib.hid (Hb.out w1 q2); clear q2)
  go_ret
  exact ⟨rfl, Hk.out⟩
end
end Go.Proofs.YtkjogkmdldplgaaDoor
