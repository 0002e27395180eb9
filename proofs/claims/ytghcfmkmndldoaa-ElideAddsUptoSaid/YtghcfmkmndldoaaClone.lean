/-
  A copy of bytes.
-/
import Derived.Test.YtghcfmkmndldoaaGet
namespace Go.Proofs.Ytghcfmkmndldoaa
open Go.RowKit

theorem eql_nil (w : World) (A : Option Addr) (n c : Nat) : (binOp .eql 48 (.slice A n c) (.slice none 0 0)).run Try.prog w = .ok (.bool A.isNone) w :=
  Lib.run_eql_slice_nil w _ 5 A n c 0 0 Try.underlying48

set_option maxRecDepth 20000 in
set_option maxHeartbeats 400000 in
theorem clone_any (A : Option Addr) (c : Nat) (l : List UInt8) (w : World) (B : Nat) (hr : RB w B A l) (hB : B ≤ w.heap.size) (hl : l.length ≤ 1099511627776) :
    Calls Try.prog 68 #[.slice A l.length c] w fun e w' => ∃ v, e = .returned v ∧ Own w' w.heap.size v l ∧ Below w.heap.size w w' := by
  have Hr := Lib.hid hr
  have Hl := Lib.hid hl
  have HB := Lib.hid hB
  clear hr hl hB
  rcases A with _ | ad
  · have h0 : l = [] := by
      rcases l with _ | ⟨x, l⟩
      · rfl
      · obtain ⟨ad, e, _⟩ := Hr.out 0 x rfl
        cases e
    subst h0
    have hq := fun W => eql_nil W none 0 c
    go_enter Try.func68, Try.ntmps68
    go_wp2_with fail
    go_ret
    exact ⟨_, rfl, Own.nil _ _, Below.refl _ _⟩
  · have hq := fun W => eql_nil W (some ad) l.length c
    go_enter Try.func68, Try.ntmps68
    go_wp2_with (at_builtin; refine app_bytes rfl (.tmp 5) (.tmp 6) rfl w.heap.size _ [] rfl (Own.made w _ (Nat.le_refl _)) _ (some ad) l.length c l rfl rfl (Hr.out.alloc HB.out _) (by have := Hl.out; simp; omega) (by simp) ?_; intro v1 w1 hown hbel _)
    go_ret
    exact ⟨v1, rfl, by simpa using hown, ((Below.refl _ _).alloc (Nat.le_refl _) _).trans hbel⟩
end Go.Proofs.Ytghcfmkmndldoaa
