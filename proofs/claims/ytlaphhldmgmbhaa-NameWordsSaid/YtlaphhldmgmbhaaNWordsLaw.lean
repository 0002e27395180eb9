/-
  NameWords: whatever the text: the call returns true.
-/
import Derived.Test.YtlaphhldmgmbhaaNKnown
import Derived.Test.YtlaphhldmgmbhaaNRefWords2
namespace Go.Proofs.Ytlaphhldmgmbhaa
open Go.RowKit

set_option maxRecDepth 20000 in
set_option maxHeartbeats 2000000 in
theorem wordsLaw_any (s : ByteArray) (w : World) : Calls Try.prog 4 #[.string s] w fun e w' => e = .returned (.bool true) ∧ Below w.heap.size w w' := by
  have Hk := Lib.hid (known_any w)
  by_cases hbig : 32768 < s.size
  · have hb : (32768 : Int) < (s.size : Int) := by omega
    clear hbig
    go_enter Try.func4, Try.ntmps4
    go_wp2_with fail
    refine Hk.out.mono ?_
    rintro e w1 ⟨rfl, hb1⟩
    have Hb1 := Lib.hid hb1
    clear hb1
    go_wp2_with fail
    go_ret
    exact ⟨rfl, Hb1.out⟩
  · have hb : (s.size : Int) ≤ 32768 := by omega
    have Hw := Lib.hid (fun W => words_any s W (by omega))
    have Hww := Lib.hid (fun W => refWords_any s W (by omega))
    have Hf := Lib.hid (fun W => fold_any s W (by omega))
    have Hff := Lib.hid (fun W => refFold_any s W (by omega))
    have hcount := wordsL_count s.data.toList.length s.data.toList (Nat.le_refl _)
    have hcl : (texts (wordsL s.data.toList)).length ≤ 32768 := by
      rw [texts, List.length_map]
      have : s.data.toList.length = s.size := rfl
      omega
    have HT : Hid (∀ v ∈ texts (wordsL s.data.toList), ∃ x, v = .string x) := by
      intro v hv
      simp only [texts, List.mem_map] at hv
      obtain ⟨y, _, rfl⟩ := hv
      exact ⟨_, rfl⟩
    generalize texts (wordsL s.data.toList) = T at Hw Hww hcl HT
    obtain ⟨f, hf⟩ : ∃ f : ByteArray, f = ⟨(foldL s.data.toList).toArray⟩ := ⟨_, rfl⟩
    rw [← hf] at Hf Hff
    have hcl' : (T.length : Int) ≤ 32768 := by omega
    clear hf hbig hcount
    go_enter Try.func4, Try.ntmps4
    go_wp2_with fail
    refine Hk.out.mono ?_
    rintro e w1 ⟨rfl, hb1⟩
    have Hb1 := Lib.hid hb1
    clear hb1
    go_wp2_with fail
    refine (Hw.out _).mono ?_
    rintro e w2 ⟨va, rfl, howna, hb2⟩
    have Hb2 : Hid (Below w.heap.size w w2) := Hb1.out.trans (hb2.mono Hb1.out.size)
    have Howna := Lib.hid howna
    clear hb2 howna
    go_wp2_with fail
    refine (Hww.out _).mono ?_
    rintro e w3 ⟨vb, rfl, hownb, hb3⟩
    have Hb3 : Hid (Below w.heap.size w w3) := Hb2.out.trans (hb3.mono Hb2.out.size)
    have Howna3 := Lib.hid (Howna.out.below hb3)
    have Hownb3 := Lib.hid hownb
    obtain ⟨A, ca, rfl, _, _, _⟩ := Howna3.out.rd
    obtain ⟨B, cb, rfl, _, _, _⟩ := Hownb3.out.rd
    clear hb3 hownb Howna
    go_wp2_with fail
    refine (Hf.out _).mono ?_
    rintro e w4 ⟨rfl, hb4⟩
    have Hb4 : Hid (Below w.heap.size w w4) := Hb3.out.trans (hb4.mono Hb3.out.size)
    have Howna4 := Lib.hid (Howna3.out.below hb4)
    have Hownb4 := Lib.hid (Hownb3.out.below hb4)
    clear hb4 Howna3 Hownb3
    go_wp2_with fail
    refine (Hff.out _).mono ?_
    rintro e w5 ⟨rfl, hb5⟩
    have Hb5 : Hid (Below w.heap.size w w5) := Hb4.out.trans (hb5.mono Hb4.out.size)
    have Howna5 := Lib.hid (Howna4.out.below hb5)
    have Hownb5 := Lib.hid (Hownb4.out.below hb5)
    clear hb5 Howna4 Hownb4
    go_wp2_with fail
    go_loopw [5] (fun i wr => ∃ k : Nat, k ≤ T.length ∧ i = .int .i64 (k : Int) ∧ Hid (OwnV wr w1.heap.size 9 (.slice A T.length ca) T) ∧ Hid (OwnV wr w2.heap.size 9 (.slice B T.length cb) T) ∧ Hid (Below w.heap.size w wr)) (fun i _ => (T.length - intOf i).toNat)
    case atStart => exact ⟨0, by omega, rfl, Howna5.out, Hownb5.out, Hb5.out⟩
    case round =>
      obtain ⟨k, hk, rfl, howna, hownb, hbel⟩ := hrel
      by_cases hkl : k < T.length
      · obtain ⟨A', ca', hA, _, _, hcA⟩ := howna.out.rd
        obtain ⟨B', cb', hB, _, _, hcB⟩ := hownb.out.rd
        simp only [Value.slice.injEq] at hA hB
        obtain ⟨rfl, -, rfl⟩ := hA
        obtain ⟨rfl, -, rfl⟩ := hB
        obtain ⟨a, rfl, hba, hca⟩ := hcA k _ (List.getElem?_eq_getElem hkl)
        obtain ⟨b, rfl, hbb, hcb⟩ := hcB k _ (List.getElem?_eq_getElem hkl)
        clear hcA hcB hba hbb
        obtain ⟨x, hx⟩ := HT.out _ (List.getElem_mem hkl)
        rw [hx] at hca hcb
        have hkl' : (k : Int) < (T.length : Int) := by omega
        have heq : (x.toList == x.toList) = true := by simp
        clear hx
        go_wp2_with fail
        go_quiet (fail)
        all_goals
          go_wp2_with fail
          go_roundw
          case rel => exact ⟨k + 1, by omega, by go_num, howna.out, hownb.out, show Below _ _ _ from ⟨hbel.out.os, hbel.out.tape, hbel.out.output, hbel.out.size, hbel.out.block⟩⟩
          case measure => simp [intOf]; omega
      · go_wp2_with fail
        go_ret
        exact ⟨rfl, hbel.out⟩
end Go.Proofs.Ytlaphhldmgmbhaa
