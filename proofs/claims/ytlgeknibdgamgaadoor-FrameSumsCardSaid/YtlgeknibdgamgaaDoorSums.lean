/-
  FrameSums: whatever the parts: the call returns true.
-/
import Derived.Test.YtlgeknibdgamgaaDoorKnown
import Derived.Test.YtlgeknibdgamgaaDoorJoined
namespace Go.Proofs.YtlgeknibdgamgaaDoor
open Go.RowKit

set_option maxRecDepth 200000 in
set_option maxHeartbeats 1000000 in
theorem sums_any (A : Option Addr) (c : Nat) (ls : List (List UInt8)) (w : World) (ht : Tab w) (hr : RBB w w.heap.size A ls) :
    Calls Tryd.prog 3 #[.slice A ls.length c] w fun e w' => e = .returned (.bool true) ∧ Below w.heap.size w w' := by
  have Ht := Lib.hid ht
  have Hr := Lib.hid hr
  clear ht hr
  go_enter Tryd.func3, Tryd.ntmps3
  go_wp2_with fail
  refine (known_any w Ht.out).mono ?_
  rintro e w1 ⟨rfl, hb1⟩
  have Hb1 := Lib.hid hb1
  clear hb1
  go_wp2_with fail
  refine (joined_any A c ls w1 ((Hr.out.below Hb1.out).wide Hb1.out.size)).mono ?_
  rintro e w2 ⟨v, ok, rfl, hb2, hok⟩
  have Hb2 : Hid (Below w.heap.size w w2) := Hb1.out.trans (hb2.mono Hb1.out.size)
  clear hb2
  cases ok with
  | false =>
    clear hok
    go_wp2_with fail
    go_ret
    exact ⟨rfl, Hb2.out⟩
  | true =>
    obtain ⟨hown, hl1, hl2⟩ := hok rfl
    have hall := (Hr.out).all_le hl1
    have hs := sum_any A c ls w2 _ (Ht.out.below Hb2.out Ht.out.pos) (Hr.out.below Hb2.out) (by omega) (fun l hl => by have := hall l hl; omega)
    obtain ⟨P, cp, rfl, hcp, hrp, _⟩ := hown.rb
    have hs2 := refSum_any P cp ls.flatten w2 _ hrp (by omega)
    generalize sumOf ls.flatten = sm at hs hs2
    generalize ls.flatten.length = n at hs2 ⊢
    have Hs := Lib.hid hs
    have Hs2 := Lib.hid hs2
    clear hs hs2 hok hown hall hcp hrp hl1 hl2
    go_wp2_with fail
    refine Hs.out.mono ?_
    rintro e w' ⟨rfl, rfl⟩
    go_wp2_with fail
    refine Hs2.out.mono ?_
    rintro e w' ⟨rfl, rfl⟩
    go_wp2_with fail
    go_ret
    exact ⟨by simp, Hb2.out⟩
end Go.Proofs.YtlgeknibdgamgaaDoor
