/-
  NameFolds: whatever the text: the call returns true.
-/
import Derived.Test.YtlaphhldmgmbhaaNKnown
namespace Go.Proofs.Ytlaphhldmgmbhaa
open Go.RowKit

theorem foldL_twice (l : List UInt8) : foldL (foldL l) = foldL l := by
  unfold foldL
  rw [List.map_map]
  apply List.map_congr_left
  intro x _
  exact foldB_twice x
theorem size_mk (l : List UInt8) : (⟨l.toArray⟩ : ByteArray).size = l.length := by rw [Lib.size_eq]

set_option maxRecDepth 20000 in
set_option maxHeartbeats 2000000 in
theorem folds_any (s : ByteArray) (w : World) : Calls Try.prog 7 #[.string s] w fun e w' => e = .returned (.bool true) ∧ Below w.heap.size w w' := by
  have Hk := Lib.hid (known_any w)
  by_cases hbig : 32768 < s.size
  · have hb : (32768 : Int) < (s.size : Int) := by omega
    clear hbig
    go_enter Try.func7, Try.ntmps7
    go_wp2_with fail
    refine Hk.out.mono ?_
    rintro e w1 ⟨rfl, hb1⟩
    have Hb1 := Lib.hid hb1
    clear hb1
    go_wp2_with fail
    go_ret
    exact ⟨rfl, Hb1.out⟩
  · have hb : (s.size : Int) ≤ 32768 := by omega
    have Hf := Lib.hid (fun W => fold_any s W (by omega))
    have Hl : Hid ((foldL s.data.toList).length = s.size) := by show _ = _; simp [foldL]
    obtain ⟨f, hf⟩ : ∃ f : ByteArray, f = ⟨(foldL s.data.toList).toArray⟩ := ⟨_, rfl⟩
    have hfl : f.data.toList = foldL s.data.toList := by rw [hf]
    have hfs : f.size = s.size := by rw [hf, size_mk, Hl.out]
    have Hf2 := Lib.hid (fun W => fold_any f W (by omega))
    rw [← hf] at Hf
    rw [hfl, foldL_twice, ← hf] at Hf2
    have Hfl := Lib.hid hfl
    have Hfs := Lib.hid hfs
    have hfs2 : (f.size : Int) = (s.size : Int) := by omega
    have Hfs2 := Lib.hid hfs2
    have hne : ((f.size : Int) != (s.size : Int)) = false := by simp [hfs]
    have heq : (f.toList == f.toList) = true := by simp
    clear hf hfl hfs hbig hfs2
    go_enter Try.func7, Try.ntmps7
    go_wp2_with fail
    refine Hk.out.mono ?_
    rintro e w1 ⟨rfl, hb1⟩
    have Hb1 := Lib.hid hb1
    clear hb1
    go_wp2_with fail
    refine (Hf.out _).mono ?_
    rintro e w2 ⟨rfl, hb2⟩
    have Hb2 : Hid (Below w.heap.size w w2) := Hb1.out.trans (hb2.mono Hb1.out.size)
    clear hb2
    go_wp2_with fail
    refine (Hf2.out _).mono ?_
    rintro e w3 ⟨rfl, hb3⟩
    have Hb3 : Hid (Below w.heap.size w w3) := Hb2.out.trans (hb3.mono Hb2.out.size)
    clear hb3
    go_wp2_with fail
    go_loopw [4, 5] (fun i b wr => ∃ k : Nat, k ≤ s.size ∧ i = .int .i64 (k : Int) ∧ Hid (Below w.heap.size w wr)) (fun i _ _ => (s.size - intOf i).toNat)
    case atStart => exact ⟨0, by omega, rfl, Hb3.out⟩
    case round =>
      obtain ⟨k, hk, rfl, hbel⟩ := hrel
      by_cases hkl : k < s.size
      · have hix := fun W => index_at s k hkl W
        have hiy := fun W => index_at f k (by have := Hfs.out; omega) W
        have hyx : f.data.toList.getD k 0 = foldB (s.data.toList.getD k 0) := by
          rw [Hfl.out, foldL, List.getD_eq_getElem?_getD, List.getElem?_map, List.getD_eq_getElem?_getD, List.getElem?_eq_getElem (show k < s.data.toList.length from hkl)]
          rfl
        rw [hyx, foldB_val] at hiy
        have hx := (s.data.toList.getD k 0).toNat_lt
        generalize (s.data.toList.getD k 0).toNat = x at hix hiy hx
        have hkf : (k : Int) < (f.size : Int) := by have := Hfs.out; omega
        have hkl' : (k : Int) < (s.size : Int) := by omega
        clear hyx
        by_cases hbg : 65 ≤ x ∧ x ≤ 90
        · obtain ⟨h1, h2⟩ := hbg
          rw [if_pos ⟨h1, h2⟩] at hiy
          have hca : ((x + 32 : Nat) : Int) = (x : Int) + 32 := by omega
          rw [hca] at hiy
          have hw : IntKind.u8.wrap ((x : Int) + 32) = (x : Int) + 32 := by rw [IntKind.wrap_u8]; omega
          have h1' : (65 : Int) ≤ (x : Int) := by omega
          have h2' : (x : Int) ≤ 90 := by omega
          clear hca h1 h2 hx
          go_wp2_with fail
          go_quiet (fail)
          all_goals
            go_wp2_with fail
            go_roundw
            case rel => exact ⟨k + 1, by omega, by go_num, show Below _ _ _ from ⟨hbel.out.os, hbel.out.tape, hbel.out.output, hbel.out.size, hbel.out.block⟩⟩
            case measure => simp [intOf]; omega
        · rw [if_neg hbg] at hiy
          have hd : decide ((65 : Int) ≤ (x : Int)) = false ∨ (decide ((65 : Int) ≤ (x : Int)) = true ∧ decide ((x : Int) ≤ 90) = false) := by simp; omega
          clear hbg hx
          rcases hd with hd | ⟨hd, hd2⟩
          all_goals
            go_wp2_with fail
            go_quiet (fail)
            all_goals
              go_wp2_with fail
              go_roundw
              case rel => exact ⟨k + 1, by omega, by go_num, show Below _ _ _ from ⟨hbel.out.os, hbel.out.tape, hbel.out.output, hbel.out.size, hbel.out.block⟩⟩
              case measure => simp [intOf]; omega
      · go_wp2_with fail
        go_ret
        exact ⟨rfl, hbel.out⟩
end Go.Proofs.Ytlaphhldmgmbhaa
