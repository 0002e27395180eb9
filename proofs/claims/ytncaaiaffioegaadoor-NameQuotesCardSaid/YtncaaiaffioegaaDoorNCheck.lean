/-
  May a name be: the program's check.
-/
import Derived.Test.YtncaaiaffioegaaDoorNIndex
namespace Go.Proofs.YtncaaiaffioegaaDoor
open Go.RowKit

/-- CHECK: may the text be a name? -/
def checkL (l : List UInt8) : Nat :=
  if 64 < l.length then 1 else if runesB l = false then 1 else if (runesL l).length < 1 then 1 else if 32 < (runesL l).length then 1 else if anyBarred (runesL l) = true then 1 else 0
theorem runesL_le (l : List UInt8) : ∀ r ∈ runesL l, r ≤ 1114111 := by
  intro r hr
  unfold runesL runesOf at hr
  split at hr
  · simp only [Option.getD_some, List.mem_map] at hr
    obtain ⟨sg, hs, rfl⟩ := hr
    have hg := segsOf_good l sg hs
    cases hg with
    | low x hx => dsimp only; omega
    | high bs v h2 h4 hv hm hs hb he => exact hm
    | torn x hx => dsimp only; omega
  · simp at hr
theorem runesL_len (l : List UInt8) : (runesL l).length ≤ l.length := by
  have h : (segsOf l).length ≤ l.length := by
    refine seg_ind (P := fun l => (segsOf l).length ≤ l.length) (by simp [segsOf_nil]) ?_ l
    intro l h ih
    have hp := dec_pos l
    have hl := List.length_pos_iff.2 h
    rw [segsOf_cons l h, List.length_cons]
    rw [List.length_drop] at ih
    omega
  unfold runesL runesOf
  split
  · simpa using h
  · simp

set_option maxRecDepth 20000 in
set_option maxHeartbeats 1000000 in
theorem check_any (s : ByteArray) (w : World) (hs : s.size ≤ 4294967296) :
    Calls Tryd.prog 12 #[.string s] w fun e w' => e = .returned (.int .i64 (checkL s.data.toList : Nat)) ∧ Below w.heap.size w w' := by
  have Hsl : Hid (s.data.toList.length = s.size) := by show _ = _; rfl
  have Hspec : Hid (checkL s.data.toList = _) := (by rw [checkL] : checkL s.data.toList = _)
  have Hrn := Lib.hid (runes_any s w (by omega))
  have Hle := Lib.hid (runesL_le s.data.toList)
  have hln := runesL_len s.data.toList
  rw [Hsl.out] at hln
  generalize checkL s.data.toList = out at Hspec ⊢
  generalize runesL s.data.toList = L at Hrn Hle hln Hspec
  generalize runesB s.data.toList = ok at Hrn Hspec
  rw [Hsl.out] at Hspec
  by_cases h64 : 64 < s.size
  · have Hout : Hid (out = 1) := by show _ = _; rw [Hspec.out, if_pos h64]
    have hh : (64 : Int) < (s.size : Int) := by omega
    clear Hspec h64
    go_enter Tryd.func12, Tryd.ntmps12
    go_wp2_with fail
    go_ret
    exact ⟨by rw [Hout.out]; rfl, Below.refl _ _⟩
  · have hh : (s.size : Int) ≤ 64 := by omega
    have hs0 := Hspec.out
    rw [if_neg h64] at hs0
    have Hs1 := Lib.hid hs0
    clear hs0
    clear Hspec h64
    cases ok with
    | false =>
      have Hout : Hid (out = 1) := by show _ = _; rw [Hs1.out, if_pos rfl]
      clear Hs1
      go_enter Tryd.func12, Tryd.ntmps12
      go_wp2_with fail
      refine Hrn.out.mono ?_
      rintro e w1 ⟨v, rfl, hown, hb⟩
      have Hb := Lib.hid hb
      clear hown hb
      go_wp2_with fail
      go_ret
      exact ⟨by rw [Hout.out]; rfl, Hb.out⟩
    | true =>
      have hs0 := Hs1.out
      rw [if_neg (by simp)] at hs0
      have Hs2 := Lib.hid hs0
      clear hs0
      clear Hs1
      by_cases hA : L.length < 1
      · have Hout : Hid (out = 1) := by show _ = _; rw [Hs2.out, if_pos hA]
        have hA' : (L.length : Int) < 1 := by omega
        clear Hs2 hA
        go_enter Tryd.func12, Tryd.ntmps12
        go_wp2_with fail
        refine Hrn.out.mono ?_
        rintro e w1 ⟨v, rfl, hown, hb⟩
        have Hb := Lib.hid hb
        obtain ⟨A, c, hv, _, _, _⟩ := hown.rd
        rw [i32s, List.length_map] at hv
        subst hv
        clear hown hb
        go_wp2_with fail
        go_ret
        exact ⟨by rw [Hout.out]; rfl, Hb.out⟩
      · have hA' : (1 : Int) ≤ (L.length : Int) := by omega
        have hs0 := Hs2.out
        rw [if_neg hA] at hs0
        have Hs3 := Lib.hid hs0
        clear hs0
        clear Hs2 hA
        by_cases hB : 32 < L.length
        · have Hout : Hid (out = 1) := by show _ = _; rw [Hs3.out, if_pos hB]
          have hB' : (32 : Int) < (L.length : Int) := by omega
          clear Hs3 hB
          go_enter Tryd.func12, Tryd.ntmps12
          go_wp2_with fail
          refine Hrn.out.mono ?_
          rintro e w1 ⟨v, rfl, hown, hb⟩
          have Hb := Lib.hid hb
          obtain ⟨A, c, hv, _, _, _⟩ := hown.rd
          rw [i32s, List.length_map] at hv
          subst hv
          clear hown hb
          go_wp2_with fail
          go_ret
          exact ⟨by rw [Hout.out]; rfl, Hb.out⟩
        · have hB' : (L.length : Int) ≤ 32 := by omega
          have hs0 := Hs3.out
          rw [if_neg hB] at hs0
          have Hs4 := Lib.hid hs0
          clear hs0
          clear Hs3 hB
          cases hC : anyBarred L with
          | true =>
            have Hout : Hid (out = 1) := by show _ = _; rw [Hs4.out, if_pos hC]
            have HC := Lib.hid hC
            clear Hs4 hC
            go_enter Tryd.func12, Tryd.ntmps12
            go_wp2_with fail
            refine Hrn.out.mono ?_
            rintro e w1 ⟨v, rfl, hown, hb⟩
            have Hb := Lib.hid hb
            obtain ⟨A, c, hv, _, _, hcell⟩ := hown.rd
            have Hco := Lib.hid (contains_any A c L w1 (by omega) hcell Hle.out)
            rw [HC.out] at Hco
            rw [i32s, List.length_map] at hv
            subst hv
            clear hown hb hcell
            go_wp2_with fail
            refine Hco.out.mono ?_
            rintro e w' ⟨rfl, rfl⟩
            go_wp2_with fail
            go_ret
            exact ⟨by rw [Hout.out]; rfl, Hb.out⟩
          | false =>
            have Hout : Hid (out = 0) := by show _ = _; rw [Hs4.out, if_neg (by rw [hC]; simp)]
            have HC := Lib.hid hC
            clear Hs4 hC
            go_enter Tryd.func12, Tryd.ntmps12
            go_wp2_with fail
            refine Hrn.out.mono ?_
            rintro e w1 ⟨v, rfl, hown, hb⟩
            have Hb := Lib.hid hb
            obtain ⟨A, c, hv, _, _, hcell⟩ := hown.rd
            have Hco := Lib.hid (contains_any A c L w1 (by omega) hcell Hle.out)
            rw [HC.out] at Hco
            rw [i32s, List.length_map] at hv
            subst hv
            clear hown hb hcell
            go_wp2_with fail
            refine Hco.out.mono ?_
            rintro e w' ⟨rfl, rfl⟩
            go_wp2_with fail
            go_ret
            exact ⟨by rw [Hout.out]; rfl, Hb.out⟩
end Go.Proofs.YtncaaiaffioegaaDoor
