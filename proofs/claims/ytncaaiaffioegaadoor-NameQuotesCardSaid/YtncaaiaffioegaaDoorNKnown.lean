/-
  The chapter's examples.
-/
import Derived.Test.YtncaaiaffioegaaDoorNCheck
import Derived.Test.YtncaaiaffioegaaDoorNWords
import Derived.Test.YtncaaiaffioegaaDoorNQuote
import Derived.Test.YtncaaiaffioegaaDoorNFold
namespace Go.Proofs.YtncaaiaffioegaaDoor
open Go.RowKit

theorem ex_words : wordsL [112, 117, 116, 32, 34, 97, 32, 98, 34, 99, 32, 49] = [[112, 117, 116], [34, 97, 32, 98, 34, 99], [49]] := by decide +kernel
theorem ex_check1 : checkL [100, 195, 164, 116, 195, 164] = 0 := by decide +kernel
theorem ex_check2 : checkL [97, 32, 98] = 1 := by decide +kernel
theorem ex_quote : quoteL [97, 34, 255] = [34, 97, 92, 34, 92, 120, 102, 102, 34] := by decide +kernel
theorem ex_fold : foldL [65, 98, 90] = [97, 98, 122] := by decide +kernel

set_option maxRecDepth 20000 in
set_option maxHeartbeats 1000000 in
theorem known_any (w : World) : Calls Tryd.prog 5 #[] w fun e w' => e = .returned (.bool true) ∧ Below w.heap.size w w' := by
  have Hw := Lib.hid (words_any ⟨#[112, 117, 116, 32, 34, 97, 32, 98, 34, 99, 32, 49]⟩ w (by show 12 ≤ _; omega))
  have Hc1 := Lib.hid (fun W => check_any ⟨#[100, 195, 164, 116, 195, 164]⟩ W (by show 6 ≤ _; omega))
  have Hc2 := Lib.hid (fun W => check_any ⟨#[97, 32, 98]⟩ W (by show 3 ≤ _; omega))
  have Hq := Lib.hid (fun W => quote_any ⟨#[97, 34, 255]⟩ W (by show 3 ≤ _; omega))
  have Hf := Lib.hid (fun W => fold_any ⟨#[65, 98, 90]⟩ W (by show 3 ≤ _; omega))
  rw [show (⟨#[112, 117, 116, 32, 34, 97, 32, 98, 34, 99, 32, 49]⟩ : ByteArray).data.toList = [112, 117, 116, 32, 34, 97, 32, 98, 34, 99, 32, 49] from rfl, ex_words] at Hw
  have e1 : checkL (⟨#[100, 195, 164, 116, 195, 164]⟩ : ByteArray).data.toList = 0 := ex_check1
  have e2 : checkL (⟨#[97, 32, 98]⟩ : ByteArray).data.toList = 1 := ex_check2
  have e3 : quoteL (⟨#[97, 34, 255]⟩ : ByteArray).data.toList = [34, 97, 92, 34, 92, 120, 102, 102, 34] := ex_quote
  have e4 : foldL (⟨#[65, 98, 90]⟩ : ByteArray).data.toList = [97, 98, 122] := ex_fold
  rw [e1] at Hc1
  rw [e2] at Hc2
  rw [e3] at Hq
  rw [e4] at Hf
  clear e1 e2 e3 e4
  go_enter Tryd.func5, Tryd.ntmps5
  go_wp2_with fail
  refine Hw.out.mono ?_
  rintro e w1 ⟨v, rfl, hown, hb⟩
  have Hown1 := Lib.hid hown
  have Hb1 := Lib.hid hb
  clear hown hb
  go_wp2_with fail
  refine (Hc1.out _).mono ?_
  rintro e w2 ⟨rfl, hb⟩
  have Hown2 := Lib.hid (Hown1.out.below hb)
  have Hb2 : Hid (Below w.heap.size w w2) := Hb1.out.trans (hb.mono Hb1.out.size)
  clear hb
  go_wp2_with fail
  refine (Hc2.out _).mono ?_
  rintro e w3 ⟨rfl, hb⟩
  have Hown3 := Lib.hid (Hown2.out.below hb)
  have Hb3 : Hid (Below w.heap.size w w3) := Hb2.out.trans (hb.mono Hb2.out.size)
  clear hb
  go_wp2_with fail
  refine (Hq.out _).mono ?_
  rintro e w4 ⟨rfl, hb⟩
  have hown := Hown3.out.below hb
  have Hb4 : Hid (Below w.heap.size w w4) := Hb3.out.trans (hb.mono Hb3.out.size)
  obtain ⟨A, c, rfl, _, _, hcell⟩ := hown.rd
  obtain ⟨b, rfl, hbl, hc⟩ := hcell 1 (.string ⟨#[34, 97, 32, 98, 34, 99]⟩) rfl
  clear hb hown hcell hbl
  go_wp2_with fail
  refine (Hf.out _).mono ?_
  rintro e w5 ⟨rfl, hb⟩
  have Hb5 : Hid (Below w.heap.size w w5) := Hb4.out.trans (hb.mono Hb4.out.size)
  clear hb hc
  go_wp2_with fail
  go_ret
  exact ⟨rfl, Hb5.out⟩
end Go.Proofs.YtncaaiaffioegaaDoor
