/-
  A byte string read: the program's reader and the second saying's.
-/
import Derived.Test.YtnphlaolinalkaaDoorRn
import Derived.Test.YtnphlaolinalkaaDoorRefRn
import Derived.Test.YtnphlaolinalkaaDoorClone
import Derived.Test.YtnphlaolinalkaaDoorRead3
namespace Go.Proofs.YtnphlaolinalkaaDoor
open Go.RowKit

/-- bytes read: what stands there, how much was taken, error -/
def readBy (l : List UInt8) (most : Int) : List UInt8 × Nat × Nat :=
  if (readNum l).2.2 ≠ 0 then ([], 0, (readNum l).2.2)
  else if max most 0 < ((readNum l).1 : Int) then ([], 0, 3)
  else if l.length < (readNum l).2.1 + (readNum l).1 then ([], 0, 21)
  else ((l.drop (readNum l).2.1).take (readNum l).1, (readNum l).2.1 + (readNum l).1, 0)

/-- v is a slice that reads as l -/
def SB (w : World) (v : Value) (l : List UInt8) : Prop := ∃ A c, v = .slice A l.length c ∧ RB w w.heap.size A l

set_option maxRecDepth 200000 in
set_option maxHeartbeats 4000000 in
theorem readBy_any (A : Option Addr) (c : Nat) (l : List UInt8) (most : Int) (w : World) (hr : RB w w.heap.size A l) (hl : l.length ≤ 1099511627776) (hc : l.length ≤ c) (hA : A = none → c = 0) (hm : most ≤ 9223372036854775807) :
    Calls Tryd.prog 16 #[.slice A l.length c, .int .i64 most] w fun e w' => ∃ v, e = .returned (.tuple #[v, .int .i64 ((readBy l most).2.1 : Nat), .int .i64 ((readBy l most).2.2 : Nat)]) ∧
      Own w' w.heap.size v (readBy l most).1 ∧ Below w.heap.size w w' := by
  have hrn := rn_any A c l w _ hr hl hc hA
  have Hr := Lib.hid hr
  have Hspec : Hid (readBy l most = _) := (by rw [readBy] : readBy l most = _)
  have Hok := Lib.hid (@readNum_ok l)
  generalize readBy l most = out at Hspec ⊢
  obtain ⟨mx, hmx⟩ : ∃ mx : Nat, max most 0 = (mx : Int) := ⟨(max most 0).toNat, by omega⟩
  have hmxb : mx ≤ 9223372036854775807 := by omega
  rw [hmx] at Hspec
  generalize hrd : readNum l = rd at hrn Hspec Hok
  obtain ⟨v, n, e⟩ := rd
  have hrn : Calls Tryd.prog 14 #[.slice A l.length c] w fun r w' => r = .returned (.tuple #[.int .u64 (v : Int), .int .i64 (n : Int), .int .i64 (e : Int)]) ∧ w = w' := hrn
  have Hrn := Lib.hid hrn
  have Hl := Lib.hid hl
  clear hr hrn hA hrd hl hm
  by_cases he : e = 0
  · obtain ⟨hn1, hn2, hn3, hv64⟩ := Hok.out he
    dsimp only at hn1 hn2 hn3 hv64
    have hb0 : ((e : Int) != 0) = false := by simp [he]
    have hwx : IntKind.u64.wrap (mx : Int) = (mx : Int) := by rw [IntKind.wrap_u64]; omega
    have hmost : (most < 0 ∧ mx = 0) ∨ most = (mx : Int) := by omega
    have Hwl : Hid (IntKind.u64.wrap ((l.length : Int) - (n : Int)) = (l.length : Int) - (n : Int)) := by show _ = _; rw [IntKind.wrap_u64]; have := Hl.out; omega
    clear hv64 hmxb hmx
    obtain ⟨b, o, rfl, hblk⟩ := Hr.out.flat (show 0 < l.length by omega)
    clear hblk
    by_cases hv : mx < v
    · have hs : out = ([], 0, 3) := by rw [Hspec.out]; simp [he, hv]
      subst hs
      clear Hspec he Hok
      rcases hmost with ⟨hneg, rfl⟩ | rfl
      all_goals
        go_enter Tryd.func16, Tryd.ntmps16
        go_wp2_with fail
        refine Hrn.out.mono ?_
        rintro e' w' ⟨rfl, rfl⟩
        go_wp2_with fail
        go_ret3
        exact ⟨.slice none 0 0, rfl, Own.nil _ _, Below.refl _ _⟩
    · by_cases hsh : l.length < n + v
      · have hs : out = ([], 0, 21) := by rw [Hspec.out]; simp [he, hv, hsh]
        subst hs
        have hsh' : (l.length : Int) - (n : Int) < (v : Int) := by omega
        have hwl : IntKind.u64.wrap (wrap64 ((l.length : Int) - (n : Int))) = (l.length : Int) - (n : Int) := by
          rw [show wrap64 ((l.length : Int) - (n : Int)) = (l.length : Int) - (n : Int) from by unfold wrap64; have := Hl.out; omega]
          exact Hwl.out
        have hlb : (l.length : Int) ≤ 1099511627776 := by have := Hl.out; omega
        have hnl : (n : Int) ≤ (l.length : Int) := by omega
        clear Hspec he Hok
        rcases hmost with ⟨hneg, rfl⟩ | rfl
        all_goals
          go_enter Tryd.func16, Tryd.ntmps16
          go_wp2_with fail
          refine Hrn.out.mono ?_
          rintro e' w' ⟨rfl, rfl⟩
          go_wp2_with fail
          go_ret3
          exact ⟨.slice none 0 0, rfl, Own.nil _ _, Below.refl _ _⟩
      · have hs : out = ((l.drop n).take v, n + v, 0) := by rw [Hspec.out]; simp only [he, hv, hsh, ne_eq, not_true, if_false, Int.ofNat_lt]
        subst hs
        have hsh' : (v : Int) ≤ (l.length : Int) - (n : Int) := by omega
        have hwl : IntKind.u64.wrap (wrap64 ((l.length : Int) - (n : Int))) = (l.length : Int) - (n : Int) := by
          rw [show wrap64 ((l.length : Int) - (n : Int)) = (l.length : Int) - (n : Int) from by unfold wrap64; have := Hl.out; omega]
          exact Hwl.out
        have hvb : (v : Int) ≤ 1099511627776 := by have := Hl.out; omega
        have hnv : n + v - n = v := by omega
        have hnvc : n + v ≤ c := by omega
        have hnvc' : (n : Int) + (v : Int) ≤ (c : Int) := by omega
        clear Hspec he Hok
        rcases hmost with ⟨hneg, rfl⟩ | rfl
        all_goals
          go_enter Tryd.func16, Tryd.ntmps16
          go_wp2_with fail
          refine Hrn.out.mono ?_
          rintro e' w' ⟨rfl, rfl⟩
          go_wp2_with fail
          · have h12 : c = n := by assumption
            have hv0 : v = 0 := by omega
            subst hv0
            have hcl := clone_any (some ⟨b, o, none⟩) 0 [] w w.heap.size (RB.nil _ _ _) (Nat.le_refl _) (by simp)
            refine hcl.mono ?_
            clear hcl
            rintro e' W9 ⟨v9, rfl, hown9, hbel9⟩
            have Hown9 := Lib.hid hown9
            have Hbel9 := Lib.hid hbel9
            clear hown9 hbel9
            go_wp2_with fail
            go_ret3
            exact ⟨v9, by simp, Hown9.out, Hbel9.out⟩
          · have hcl := clone_any (some ⟨b, o + n, none⟩) (c - n) ((l.drop n).take v) w w.heap.size ((Hr.out.cutFlat n).take v) (Nat.le_refl _) (by rw [List.length_take]; have := Hl.out; omega)
            rw [show ((l.drop n).take v).length = v by rw [List.length_take, List.length_drop]; omega] at hcl
            refine hcl.mono ?_
            clear hcl
            rintro e' W9 ⟨v9, rfl, hown9, hbel9⟩
            have Hown9 := Lib.hid hown9
            have Hbel9 := Lib.hid hbel9
            clear hown9 hbel9
            go_wp2_with fail
            go_ret3
            exact ⟨v9, by simp, Hown9.out, Hbel9.out⟩
  · have hb0 : ((e : Int) != 0) = true := by simp [he]
    have hs : out = ([], 0, e) := by rw [Hspec.out]; simp [he]
    subst hs
    clear Hspec he Hok
    go_enter Tryd.func16, Tryd.ntmps16
    go_wp2_with fail
    refine Hrn.out.mono ?_
    rintro e' w' ⟨rfl, rfl⟩
    go_wp2_with fail
    go_ret3
    exact ⟨.slice none 0 0, rfl, Own.nil _ _, Below.refl _ _⟩
set_option maxRecDepth 200000 in
set_option maxHeartbeats 4000000 in
theorem refReadBy_any (A : Option Addr) (c : Nat) (l : List UInt8) (most : Int) (w : World) (hr : RB w w.heap.size A l) (hl : l.length ≤ 1099511627776) (hc : l.length ≤ c) (hA : A = none → c = 0) (hm : most ≤ 9223372036854775807) :
    Calls Tryd.prog 17 #[.slice A l.length c, .int .i64 most] w fun e w' => ∃ v, e = .returned (.tuple #[v, .int .i64 ((readBy l most).2.1 : Nat), .int .i64 ((readBy l most).2.2 : Nat)]) ∧
      SB w v (readBy l most).1 ∧ w = w' := by
  have hrn := refRn_any A c l w _ hr hl
  have Hr := Lib.hid hr
  have Hspec : Hid (readBy l most = _) := (by rw [readBy] : readBy l most = _)
  have Hok := Lib.hid (@readNum_ok l)
  generalize readBy l most = out at Hspec ⊢
  obtain ⟨mx, hmx⟩ : ∃ mx : Nat, max most 0 = (mx : Int) := ⟨(max most 0).toNat, by omega⟩
  have hmxb : mx ≤ 9223372036854775807 := by omega
  rw [hmx] at Hspec
  generalize hrd : readNum l = rd at hrn Hspec Hok
  obtain ⟨v, n, e⟩ := rd
  have hrn : Calls Tryd.prog 15 #[.slice A l.length c] w fun r w' => r = .returned (.tuple #[.int .u64 (v : Int), .int .i64 (n : Int), .int .i64 (e : Int)]) ∧ w = w' := hrn
  have Hrn := Lib.hid hrn
  have Hl := Lib.hid hl
  clear hr hrn hA hrd hl hm
  by_cases he : e = 0
  · obtain ⟨hn1, hn2, hn3, hv64⟩ := Hok.out he
    dsimp only at hn1 hn2 hn3 hv64
    have hb0 : ((e : Int) != 0) = false := by simp [he]
    have hwx : IntKind.u64.wrap (mx : Int) = (mx : Int) := by rw [IntKind.wrap_u64]; omega
    have hmost : (most < 0 ∧ mx = 0) ∨ most = (mx : Int) := by omega
    have Hwl : Hid (IntKind.u64.wrap ((l.length : Int) - (n : Int)) = (l.length : Int) - (n : Int)) := by show _ = _; rw [IntKind.wrap_u64]; have := Hl.out; omega
    clear hv64 hmxb hmx
    obtain ⟨b, o, rfl, hblk⟩ := Hr.out.flat (show 0 < l.length by omega)
    clear hblk
    by_cases hv : mx < v
    · have hs : out = ([], 0, 3) := by rw [Hspec.out]; simp [he, hv]
      subst hs
      clear Hspec he Hok
      rcases hmost with ⟨hneg, rfl⟩ | rfl
      all_goals
        go_enter Tryd.func17, Tryd.ntmps17
        go_wp2_with fail
        refine Hrn.out.mono ?_
        rintro e' w' ⟨rfl, rfl⟩
        go_wp2_with fail
        go_ret3
        exact ⟨.slice none 0 0, rfl, ⟨none, 0, rfl, RB.nil _ _ _⟩, rfl⟩
    · by_cases hsh : l.length < n + v
      · have hs : out = ([], 0, 21) := by rw [Hspec.out]; simp [he, hv, hsh]
        subst hs
        have hsh' : (l.length : Int) - (n : Int) < (v : Int) := by omega
        have hwl : IntKind.u64.wrap (wrap64 ((l.length : Int) - (n : Int))) = (l.length : Int) - (n : Int) := by
          rw [show wrap64 ((l.length : Int) - (n : Int)) = (l.length : Int) - (n : Int) from by unfold wrap64; have := Hl.out; omega]
          exact Hwl.out
        have hlb : (l.length : Int) ≤ 1099511627776 := by have := Hl.out; omega
        have hnl : (n : Int) ≤ (l.length : Int) := by omega
        clear Hspec he Hok
        rcases hmost with ⟨hneg, rfl⟩ | rfl
        all_goals
          go_enter Tryd.func17, Tryd.ntmps17
          go_wp2_with fail
          refine Hrn.out.mono ?_
          rintro e' w' ⟨rfl, rfl⟩
          go_wp2_with fail
          go_ret3
          exact ⟨.slice none 0 0, rfl, ⟨none, 0, rfl, RB.nil _ _ _⟩, rfl⟩
      · have hs : out = ((l.drop n).take v, n + v, 0) := by rw [Hspec.out]; simp only [he, hv, hsh, ne_eq, not_true, if_false, Int.ofNat_lt]
        subst hs
        have hsh' : (v : Int) ≤ (l.length : Int) - (n : Int) := by omega
        have hwl : IntKind.u64.wrap (wrap64 ((l.length : Int) - (n : Int))) = (l.length : Int) - (n : Int) := by
          rw [show wrap64 ((l.length : Int) - (n : Int)) = (l.length : Int) - (n : Int) from by unfold wrap64; have := Hl.out; omega]
          exact Hwl.out
        have hvb : (v : Int) ≤ 1099511627776 := by have := Hl.out; omega
        have hnv : n + v - n = v := by omega
        have hnvc : n + v ≤ c := by omega
        have hnvc' : (n : Int) + (v : Int) ≤ (c : Int) := by omega
        clear Hspec he Hok
        rcases hmost with ⟨hneg, rfl⟩ | rfl
        all_goals
          go_enter Tryd.func17, Tryd.ntmps17
          go_wp2_with fail
          refine Hrn.out.mono ?_
          rintro e' w' ⟨rfl, rfl⟩
          go_wp2_with fail
          · have h12 : c = n := by assumption
            have hv0 : v = 0 := by omega
            subst hv0
            go_ret3
            exact ⟨.slice (some ⟨b, o, none⟩) 0 0, by simp, ⟨some ⟨b, o, none⟩, 0, by simp, RB.nil _ _ _⟩, rfl⟩
          · go_ret3
            exact ⟨.slice (some ⟨b, o + n, none⟩) v (c - n), by simp, ⟨some ⟨b, o + n, none⟩, c - n, by simp; omega, (Hr.out.cutFlat n).take v⟩, rfl⟩
  · have hb0 : ((e : Int) != 0) = true := by simp [he]
    have hs : out = ([], 0, e) := by rw [Hspec.out]; simp [he]
    subst hs
    clear Hspec he Hok
    go_enter Tryd.func17, Tryd.ntmps17
    go_wp2_with fail
    refine Hrn.out.mono ?_
    rintro e' w' ⟨rfl, rfl⟩
    go_wp2_with fail
    go_ret3
    exact ⟨.slice none 0 0, rfl, ⟨none, 0, rfl, RB.nil _ _ _⟩, rfl⟩
end Go.Proofs.YtnphlaolinalkaaDoor

