/-
  The library's reader of numbers, with its error.
-/
import Derived.Test.YtncaaiaffioegaaDoorNParse
import Derived.Deep.RegionHeld3
import Derived.Lib.IfaceEq
namespace Go.Proofs.YtncaaiaffioegaaDoor
open Go.RowKit

/-- the library's word for what is no number lies where it was laid -/
def Err (w : World) : Prop := ∃ t p, w.cell? ⟨0, 0, none⟩ = some (.iface t p) ∧ 0 < w.heap.size
theorem Err.below {w w' : World} (h : Err w) (hb : Below w.heap.size w w') : Err w' := by
  obtain ⟨t, p, hv, hlt⟩ := h
  exact ⟨t, p, (hb.cell hlt).trans hv, Nat.lt_of_lt_of_le hlt hb.size⟩

set_option maxRecDepth 20000 in
set_option maxHeartbeats 400000 in
theorem syntaxError_any (f s : ByteArray) (w : World) (hE : Err w) (hs : s.size ≤ 1099511627776) :
    Calls Tryd.prog 42 #[.string f, .string s] w fun e w' => ∃ a, e = .returned (.pointer (some a)) ∧ Below w.heap.size w w' := by
  obtain ⟨t, p, hv, hlt⟩ := hE
  have Hlt := Lib.hid hlt
  have Hcl := Lib.hid (fun W => sclone_any s W hs)
  clear hlt hs
  go_enter Tryd.func42, Tryd.ntmps42
  go_upto_region 1 with fail
  go_region_held3 (fun W => W.cell? ⟨0, 0, none⟩ = some (.iface t p)) (first | exact hv | exact (hbel9.cell Hlt.out).trans hv | exact (World.cell?_alloc_lt W9 _ _ (Nat.lt_of_lt_of_le Hlt.out hbel9.size)).trans ((hbel9.cell Hlt.out).trans hv)) (first | (go_at_call 32; refine (Hcl.out _).mono ?_; rintro e W9 ⟨rfl, hbel9⟩))
  go_wp2_with fail
  go_ret
  exact ⟨_, rfl, ((Below.refl _ w).drew.trans hbel9).alloc (by simpa using hbel9.size) _⟩

set_option maxRecDepth 20000 in
set_option maxHeartbeats 400000 in
theorem toError_any (f s : ByteArray) (b1 b2 : Int) (w : World) (hE : Err w) (hs : s.size ≤ 1099511627776) :
    Calls Tryd.prog 39 #[.string f, .string s, .int .i64 b1, .int .i64 b2, .iface 64 (.int .i64 2)] w fun e w' => ∃ t p, e = .returned (.iface t p) ∧ Below w.heap.size w w' := by
  have Hc := Lib.hid (syntaxError_any f s w hE hs)
  have heq : ∀ W, (binOp .eql 58 (.iface 64 (.int .i64 2)) (.iface 64 (.int .i64 2))).run Tryd.prog W = .ok (.bool true) W := fun W => Lib.run_eql_iface_int W 2 2 Tryd.underlying58 (by kernel_rfl) Tryd.underlying64
  clear hs hE
  go_enter Tryd.func39, Tryd.ntmps39
  go_wp2_with (go_at_call 42; refine Hc.out.mono ?_; rintro e W9 ⟨a, rfl, hbel9⟩)
  go_ret
  exact ⟨_, _, rfl, hbel9⟩

set_option maxRecDepth 20000 in
set_option maxHeartbeats 400000 in
theorem parse_any (s : ByteArray) (c d : UInt8) (w : World) (hs : s.data.toList = [c, d]) (hE : hval2 c.toNat d.toNat = none → Err w) :
    Calls Tryd.prog 35 #[.string s, .int .i64 16, .int .i64 8] w fun e w' => (∃ v x, e = .returned (.tuple #[.int .u64 (x : Int), v]) ∧ ((hval2 c.toNat d.toNat = some x.toNat ∧ 0 ≤ x ∧ v = .nilIface) ∨ (hval2 c.toNat d.toNat = none ∧ ∃ t p, v = .iface t p))) ∧ Below w.heap.size w w' := by
  have Hin := Lib.hid (parseIn_any s c d w hs)
  have hsz : s.size ≤ 1099511627776 := by
    have : s.size = s.data.toList.length := rfl
    rw [this, hs]; simp
  have HE := Lib.hid hE
  have Hsz := Lib.hid hsz
  generalize hval2 c.toNat d.toNat = r at Hin HE ⊢
  clear hsz hE hs
  cases r with
  | some x =>
    go_enter Tryd.func35, Tryd.ntmps35
    go_wp2_with fail
    refine Hin.out.mono ?_
    rintro e w1 ⟨rfl, hb⟩
    have Hb := Lib.hid hb
    clear hb
    simp only [parseVal]
    go_wp2_with fail
    go_ret2
    exact ⟨⟨_, _, rfl, .inl ⟨by simp, by omega, rfl⟩⟩, Hb.out⟩
  | none =>
    go_enter Tryd.func35, Tryd.ntmps35
    go_wp2_with fail
    refine Hin.out.mono ?_
    rintro e w1 ⟨rfl, hb⟩
    have Hb := Lib.hid hb
    have Ht := Lib.hid (fun f => toError_any f s 16 8 w1 ((HE.out (by first | rfl | trivial)).below hb) Hsz.out)
    clear hb
    simp only [parseVal]
    go_wp2_with (go_at_call 39; refine (Ht.out _).mono ?_; rintro e W9 ⟨t, p, rfl, hbel9⟩)
    go_ret2
    exact ⟨⟨_, _, rfl, by exact .inr ⟨by first | rfl | trivial, _, _, rfl⟩⟩, Hb.out.trans (hbel9.mono Hb.out.size)⟩
end Go.Proofs.YtncaaiaffioegaaDoor
