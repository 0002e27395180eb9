/-
  GfMakes, walked.
-/
import Derived.Test.YtbfbjmngcojaoaaGf11
namespace Go.Proofs.Ytbfbjmngcojaoaa
open Go.RowKit

set_option maxRecDepth 20000
/-- a matrix is told, with a code -/
def Tells (w : World) (L : List (List UInt8)) (code : Nat) (e : Ending) (w' : World) : Prop :=
  ∃ A c, e = .returned (.tuple #[.slice A L.length c, .int .i64 (code : Int)]) ∧ RM w' w'.heap.size A L ∧ L.length ≤ c ∧ Below w.heap.size w w'
def unitL (n : Int) : List (List UInt8) := if 1 ≤ n ∧ n ≤ 255 then unitM n.toNat else []
def pairsL (n : Int) : List (List UInt8) := if 1 ≤ n ∧ n ≤ 255 then pairsM n.toNat else []
def sizeC (n : Int) : Nat := if 1 ≤ n ∧ n ≤ 255 then 0 else 1
theorem tells_bad {w : World} {f : FuncId} {args : Array Value} (h : Calls Try.prog f args w fun e w' => e = .returned (.tuple #[.slice none 0 0, .int .i64 1]) ∧ w = w') : Calls Try.prog f args w (Tells w [] 1) :=
  h.mono fun e w' ⟨he, hw⟩ => ⟨none, 0, he, RM.nil _ _ _, Nat.le_refl _, by rw [← hw]; exact Below.refl _ _⟩
theorem madeE_tells {w : World} {L : List (List UInt8)} {e : Ending} {w' : World} (h : MadeE w L e w') : Tells w L 0 e w' := by
  obtain ⟨A, c, he, hm, hb⟩ := h
  obtain ⟨A', c', e2, hc, hr⟩ := hm.rm
  cases e2
  exact ⟨A, c, he, hr, hc, hb⟩
theorem unit_tells (n : Int) (w : World) : Calls Try.prog 22 #[.int .i64 n] w (Tells w (unitL n) (sizeC n)) := by
  unfold unitL sizeC
  by_cases h : 1 ≤ n ∧ n ≤ 255
  · rw [if_pos h, if_pos h]
    obtain ⟨m, rfl⟩ : ∃ m : Nat, n = (m : Int) := ⟨n.toNat, by omega⟩
    refine (unit_any m w (by omega) (by omega)).mono fun e w' ⟨g, he, hm, hb⟩ => ?_
    rw [Int.toNat_natCast]
    exact madeE_tells ⟨some ⟨g, 0, none⟩, m, by rw [unitM_length]; exact he, by rw [unitM_length]; exact hm, hb⟩
  · rw [if_neg h, if_neg h]
    exact tells_bad (unit_bad n w (by omega))
theorem runit_tells (n : Int) (w : World) : Calls Try.prog 23 #[.int .i64 n] w (Tells w (unitL n) (sizeC n)) := by
  unfold unitL sizeC
  by_cases h : 1 ≤ n ∧ n ≤ 255
  · rw [if_pos h, if_pos h]
    obtain ⟨m, rfl⟩ : ∃ m : Nat, n = (m : Int) := ⟨n.toNat, by omega⟩
    rw [Int.toNat_natCast]
    exact (runit_any m w (by omega) (by omega)).mono fun e w' h => madeE_tells h
  · rw [if_neg h, if_neg h]
    exact tells_bad (runit_bad n w (by omega))
theorem pairs_tells (n : Int) (w : World) : Calls Try.prog 25 #[.int .i64 n] w (Tells w (pairsL n) (sizeC n)) := by
  unfold pairsL sizeC
  by_cases h : 1 ≤ n ∧ n ≤ 255
  · rw [if_pos h, if_pos h]
    obtain ⟨m, rfl⟩ : ∃ m : Nat, n = (m : Int) := ⟨n.toNat, by omega⟩
    refine (pairs_any m w (by omega) (by omega)).mono fun e w' ⟨g, he, hm, hb⟩ => ?_
    rw [Int.toNat_natCast]
    exact madeE_tells ⟨some ⟨g, 0, none⟩, 2, he, hm, hb⟩
  · rw [if_neg h, if_neg h]
    exact tells_bad (pairs_bad n w (by omega))
theorem rpairs_tells (n : Int) (w : World) : Calls Try.prog 26 #[.int .i64 n] w (Tells w (pairsL n) (sizeC n)) := by
  unfold pairsL sizeC
  by_cases h : 1 ≤ n ∧ n ≤ 255
  · rw [if_pos h, if_pos h]
    obtain ⟨m, rfl⟩ : ∃ m : Nat, n = (m : Int) := ⟨n.toNat, by omega⟩
    rw [Int.toNat_natCast]
    exact (rpairs_any m w (by omega) (by omega)).mono fun e w' h => madeE_tells h
  · rw [if_neg h, if_neg h]
    exact tells_bad (rpairs_bad n w (by omega))
/-- what a matrix that was told and the law's own Same say -/
theorem same_self {w1 : World} {A A2 : Option Addr} {c c2 : Nat} {L : List (List UInt8)} (h : RM w1 w1.heap.size A L) (h2 : RM w1 w1.heap.size A2 L) (hl : L.length ≤ 1048576) :
    Calls Try.prog 24 #[.slice A L.length c, .slice A2 L.length c2] w1 fun e w' => e = .returned (.bool true) ∧ ∃ q, w' = w1.drewN q := by
  have := same_any A A2 c c2 L L w1 _ h h2 hl
  rw [decide_eq_true (rfl : L = L)] at this
  exact this
theorem unitL_len (n : Int) : (unitL n).length ≤ 1048576 := by
  unfold unitL
  split
  · rw [unitM_length]; omega
  · simp
theorem pairsL_len (n : Int) : (pairsL n).length ≤ 1048576 := by
  unfold pairsL
  split <;> simp [pairsM]
set_option maxHeartbeats 1600000 in
theorem makes_any (n columns : Int) (A : Option Addr) (c : Nat) (M : List (List UInt8)) (w : World) (h : RM w w.heap.size A M) (hl : M.length ≤ 1048576) (hll : ∀ (k : Nat) (l : List UInt8), M[k]? = some l → l.length ≤ 1048576) :
    Calls Try.prog 4 #[.int .i64 n, .int .i64 columns, .slice A M.length c] w fun e w' => e = .returned (.bool true) ∧ Below w.heap.size w w' := by
  have Hk := Lib.hid (known_any w)
  have HF : Hid (∀ W, Below w.heap.size w W → Calls Try.prog 21 #[.slice A M.length c] W fun e w' => e = .returned (.bool (fewM M)) ∧ W = w') := fun W hb => few_any A c M W _ (h.below hb) hl hll
  have HR : Hid (∀ W, Below w.heap.size w W → Calls Try.prog 27 #[.slice A M.length c] W fun e w' => e = .returned (.bool (rightB M)) ∧ W = w') := fun W hb => right_any A c M W _ (h.below hb) hl hll
  have HQ : Hid (∀ W, Below w.heap.size w W → Calls Try.prog 28 #[.slice A M.length c] W fun e w' => e = .returned (.bool (rightB M)) ∧ ∃ q, w' = W.drewN q) := fun W hb => rright_any A c M W _ (h.below hb) hl hll
  have HU1 := Lib.hid (unit_tells n)
  have HU2 := Lib.hid (runit_tells n)
  have HP1 := Lib.hid (pairs_tells columns)
  have HP2 := Lib.hid (rpairs_tells columns)
  have HLu := Lib.hid (unitL_len n)
  have HLp := Lib.hid (pairsL_len columns)
  generalize M.length = N at *
  generalize rightB M = rb at *
  generalize fewM M = fb at *
  generalize unitL n = U at *
  generalize pairsL columns = P at *
  generalize sizeC n = c1 at *
  generalize sizeC columns = c2 at *
  clear h hl hll
  cases fb
  · go_enter Try.func4, Try.ntmps4
    go_wp2_with fail
    refine Hk.out.mono ?_
    rintro e w1 ⟨rfl, hb1⟩
    have Hb1 := Lib.hid hb1
    have Hf := Lib.hid (HF.out w1 hb1)
    clear hb1
    go_wp2_with fail
    refine Hf.out.mono ?_
    rintro e w2 ⟨rfl, rfl⟩
    go_wp2_with fail
    go_ret
    exact ⟨rfl, Hb1.out⟩
  go_enter Try.func4, Try.ntmps4
  go_wp2_with fail
  refine Hk.out.mono ?_
  rintro e w1 ⟨rfl, hb1⟩
  have Hb1 := Lib.hid hb1
  have Hf := Lib.hid (HF.out w1 hb1)
  clear hb1
  go_wp2_with fail
  refine Hf.out.mono ?_
  rintro e w2 ⟨rfl, rfl⟩
  clear Hf HF Hk
  have D1 := Lib.hid (HU1.out w1)
  go_wp2_with fail
  refine D1.out.mono ?_
  rintro e w2 ⟨Aa, ca, rfl, ra, la, hb2⟩
  have Hb2 : Hid (Below w.heap.size w w2) := Hb1.out.trans (hb2.mono Hb1.out.size)
  have Ra := Lib.hid ra
  have D2 := Lib.hid (HU2.out w2)
  clear hb2 ra la D1 HU1 Hb1
  go_wp2_with fail
  refine D2.out.mono ?_
  rintro e w3 ⟨Ab, cb, rfl, rb', lb, hb3⟩
  have Hb3 : Hid (Below w.heap.size w w3) := Hb2.out.trans (hb3.mono Hb2.out.size)
  have D3 : Hid (Calls Try.prog 24 #[.slice Aa U.length ca, .slice Ab U.length cb] w3 fun e w' => e = .returned (.bool true) ∧ ∃ q, w' = w3.drewN q) := same_self ((Ra.out.below hb3).wide hb3.size) rb' HLu.out
  clear hb3 rb' lb D2 HU2 Hb2 Ra
  generalize U.length = ul at *
  go_wp2_with fail
  refine D3.out.mono ?_
  rintro e w4 ⟨rfl, q4, hw4⟩
  have Hb4 : Hid (Below w.heap.size w w4) := by rw [hw4]; exact drewN_below Hb3.out _
  have D4 := Lib.hid (HP1.out w4)
  clear hw4 D3 Hb3
  go_wp2_with fail
  refine D4.out.mono ?_
  rintro e w5 ⟨Ac, cc, rfl, rc, lc, hb5⟩
  have Hb5 : Hid (Below w.heap.size w w5) := Hb4.out.trans (hb5.mono Hb4.out.size)
  have Rc := Lib.hid rc
  have D5 := Lib.hid (HP2.out w5)
  clear hb5 rc lc D4 HP1 Hb4
  go_wp2_with fail
  refine D5.out.mono ?_
  rintro e w6 ⟨Ad, cd, rfl, rd, ld, hb6⟩
  have Hb6 : Hid (Below w.heap.size w w6) := Hb5.out.trans (hb6.mono Hb5.out.size)
  have D6 : Hid (Calls Try.prog 24 #[.slice Ac P.length cc, .slice Ad P.length cd] w6 fun e w' => e = .returned (.bool true) ∧ ∃ q, w' = w6.drewN q) := same_self ((Rc.out.below hb6).wide hb6.size) rd HLp.out
  clear hb6 rd ld D5 HP2 Hb5 Rc
  generalize P.length = pl at *
  go_wp2_with fail
  refine D6.out.mono ?_
  rintro e w7 ⟨rfl, q7, hw7⟩
  have Hb7 : Hid (Below w.heap.size w w7) := by rw [hw7]; exact drewN_below Hb6.out _
  have D7 := Lib.hid (HR.out w7 Hb7.out)
  have D8 := Lib.hid (HQ.out w7 Hb7.out)
  clear hw7 D6 Hb6 HR HQ
  go_wp2_with fail
  refine D7.out.mono ?_
  rintro e w8 ⟨rfl, rfl⟩
  go_wp2_with fail
  refine D8.out.mono ?_
  rintro e w9 ⟨rfl, q9, hw9⟩
  have Hb9 : Hid (Below w.heap.size w w9) := by rw [hw9]; exact drewN_below Hb7.out _
  clear hw9 D7 D8
  go_wp2_with fail
  go_ret
  exact ⟨rfl, Hb9.out⟩
end Go.Proofs.Ytbfbjmngcojaoaa
