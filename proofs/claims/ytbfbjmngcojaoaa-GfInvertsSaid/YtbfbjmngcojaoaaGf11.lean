/-
  The second saying's Unit and Pairs.
-/
import Derived.Test.YtbfbjmngcojaoaaGf10
namespace Go.Proofs.Ytbfbjmngcojaoaa
open Go.RowKit

set_option maxRecDepth 20000
def UnitRelR (w : World) (lo hi g n c k : Nat) (wr : World) : Prop := MatO wr lo hi (.slice (some ⟨g, 0, none⟩) n c) (unitK n k) ∧ Below w.heap.size w wr ∧ wr.heap.size = hi ∧ lo = w.heap.size
def MadeE (w : World) (M : List (List UInt8)) (e : Ending) (w' : World) : Prop :=
  ∃ A c, e = .returned (.tuple #[.slice A M.length c, .int .i64 0]) ∧ MatO w' w.heap.size w'.heap.size (.slice A M.length c) M ∧ Below w.heap.size w w'
theorem unitM_length (n : Nat) : (unitM n).length = n := by simp [unitM]
set_option maxHeartbeats 800000 in
theorem runit_any (n : Nat) (w : World) (h1 : 1 ≤ n) (h2 : n ≤ 255) :
    Calls Try.prog 23 #[.int .i64 (n : Int)] w (MadeE w (unitM n)) := by
  have Hb : Hid (Calls Try.prog 42 #[.int .i64 (n : Int), .int .i64 (n : Int)] w fun e w2 => ∃ g c, e = .returned (.slice (some ⟨g, 0, none⟩) n c) ∧ n ≤ c ∧ UnitRelR w w.heap.size w2.heap.size g n c 0 w2) := by
    refine (rblank_any n n w h2 h1 h2).mono fun e w2 ⟨v, he, hm, hb⟩ => ?_
    obtain ⟨g, c, rfl, hc, _⟩ := hm.head (by simp [blankM]; omega)
    rw [show (blankM n n).length = n by simp [blankM]] at hm he hc
    exact ⟨g, c, he, hc, by rw [← unitK_zero]; exact hm, hb, rfl, rfl⟩
  have hn' : (n : Int) ≤ 255 := by omega
  have hn1 : 1 ≤ (n : Int) := by omega
  clear h1 h2
  go_enter Try.func23, Try.ntmps23
  go_wp2_with fail
  refine Hb.out.mono ?_
  rintro e w2 ⟨g, c, rfl, hnc, hst⟩
  have Hst := Lib.hid hst
  generalize w2.heap.size = hi at *
  obtain ⟨lo, hlo⟩ : ∃ lo, lo = w.heap.size := ⟨_, rfl⟩
  rw [← hlo] at Hst
  clear hlo hst Hb
  go_wp2_with fail
  go_loopw [5] (fun iv wr => ∃ k : Nat, iv = .int .i64 (k : Int) ∧ k ≤ n ∧ Hid (UnitRelR w lo hi g n c k wr)) (fun iv _ => n - (intOf iv).toNat)
  case atStart => exact ⟨0, rfl, Nat.zero_le _, Hst.out⟩
  case round =>
    obtain ⟨k, rfl, hk, hrel⟩ := hrel
    by_cases hlt : k < n
    · have hlt' : (k : Int) < (n : Int) := by omega
      obtain ⟨r1, r2, r3, r4⟩ := hrel.out
      obtain ⟨b, c', hr, hset⟩ := r1.row (i := k) (l := List.replicate n 0) (by rw [unitK_get n k k hlt, if_neg (by omega)])
      have hc0 := hr.head
      rw [List.length_replicate] at hc0
      have hc1 := hr.cells k 0 (by rw [List.getElem?_replicate, if_pos hlt])
      have hf1 := hr.free k
      have hcl := hr.cap
      rw [List.length_replicate] at hcl
      have Hn : Hid (UnitRelR w lo hi g n c (k + 1) (wr.setCell ⟨b, k, none⟩ (.int .u8 1))) := by
        have := hset k 1
        rw [unitK_step n k hlt] at this
        exact ⟨this, r2.setCell (p := ⟨b, k, none⟩) (by rw [← r4]; exact hr.low) _, by simp [World.setCell, r3], r4⟩
      clear r1 r2 r3 r4 hr hset hrel hlt
      go_wp2_with fail
      go_roundw
      case rel => exact ⟨k + 1, by go_num, by omega, Hn.out⟩
      case measure => simp [intOf]; omega
    · obtain rfl : k = n := by omega
      have Hd : Hid (MadeE w (unitM k) (.returned (.tuple #[.slice (some ⟨g, 0, none⟩) k c, .int .i64 0])) wr) := by
        obtain ⟨r1, r2, r3, r4⟩ := hrel.out
        rw [unitK_done, ← r3, r4] at r1
        exact ⟨some ⟨g, 0, none⟩, c, by rw [unitM_length], by rw [unitM_length]; exact r1, r2⟩
      clear hlt hrel
      go_wp2_with fail
      go_ret2
      exact Hd.out
theorem runit_bad (n : Int) (w : World) (h : n < 1 ∨ 255 < n) :
    Calls Try.prog 23 #[.int .i64 n] w fun e w' => e = .returned (.tuple #[.slice none 0 0, .int .i64 1]) ∧ w = w' := by
  by_cases h1 : n < 1
  · clear h
    go_enter Try.func23, Try.ntmps23
    go_wp2_with fail
    go_ret2
    exact ⟨rfl, rfl⟩
  · have h2 : 255 < n := by omega
    have h3 : 1 ≤ n := by omega
    clear h h1
    go_enter Try.func23, Try.ntmps23
    go_wp2_with fail
    go_ret2
    exact ⟨rfl, rfl⟩

def PairRelR (w : World) (lo hi g n cc k : Nat) (wr : World) : Prop := MatO wr lo hi (.slice (some ⟨g, 0, none⟩) 2 cc) (pairsK n k) ∧ Below w.heap.size w wr ∧ wr.heap.size = hi ∧ lo = w.heap.size
theorem pairR_facts {w wr : World} {lo hi g n cc k : Nat} (h : PairRelR w lo hi g n cc k wr) (hk : k < n) :
    ∃ b b' c c', b ≠ b' ∧ b ≠ g ∧ b' ≠ g ∧ n ≤ c ∧ n ≤ c' ∧ wr.cell? ⟨g, 0, none⟩ = some (.slice (some ⟨b, 0, none⟩) n c) ∧ wr.cell? ⟨g, 1, none⟩ = some (.slice (some ⟨b', 0, none⟩) n c') ∧ wr.cell? ⟨b, k, none⟩ = some (.int .u8 0) ∧ wr.cell? ⟨b', k, none⟩ = some (.int .u8 0) ∧ wr.frozen? ⟨b, k, none⟩ = false ∧ wr.frozen? ⟨b', k, none⟩ = false ∧
      PairRelR w lo hi g n cc (k + 1) ((wr.setCell ⟨b, k, none⟩ (.int .u8 1)).setCell ⟨b', k, none⟩ (.int .u8 ((ex k : Nat) : Int))) := by
  obtain ⟨r1, r2, r3, r4⟩ := h
  obtain ⟨b, b', c, c', h1, h2, hne, hs⟩ := r1.two (i := 0) (i' := 1) (by omega) rfl rfl
  have l1 : (List.replicate k (1 : UInt8) ++ List.replicate (n - k) 0).length = n := by simp; omega
  have l2 : ((List.range k).map pwr ++ List.replicate (n - k) 0).length = n := by simp; omega
  have g1 := h1.head
  have g2 := h2.head
  rw [l1] at g1
  rw [l2] at g2
  refine ⟨b, b', c, c', hne, h1.ne, h2.ne, by have := h1.cap; omega, by have := h2.cap; omega, g1, g2, h1.cells k 0 ?_, h2.cells k 0 ?_, h1.free k, h2.free k, ?_⟩
  · rw [List.getElem?_append_right (by simp), List.length_replicate, Nat.sub_self, List.getElem?_replicate, if_pos (by omega)]
  · rw [List.getElem?_append_right (by simp), List.length_map, List.length_range, Nat.sub_self, List.getElem?_replicate, if_pos (by omega)]
  · obtain ⟨s1, _⟩ := hs k 1 k (pwr k)
    have e : ((pairsK n k).set 0 ((List.replicate k (1 : UInt8) ++ List.replicate (n - k) 0).set k 1)).set 1 (((List.range k).map pwr ++ List.replicate (n - k) 0).set k (pwr k)) = pairsK n (k + 1) := by
      rw [pairs_step0 n k hk, pairs_step1 n k hk]
      rfl
    rw [e, pwr_nat] at s1
    have b1 : w.heap.size ≤ b := by rw [← r4]; exact h1.low
    have b2 : w.heap.size ≤ b' := by rw [← r4]; exact h2.low
    exact ⟨s1, (r2.setCell (p := ⟨b, k, none⟩) b1 (.int .u8 1)).setCell (p := ⟨b', k, none⟩) b2 (.int .u8 ((ex k : Nat) : Int)), by simp [World.setCell, r3], r4⟩
set_option maxHeartbeats 800000 in
theorem rpairs_any (n : Nat) (w : World) (h1 : 1 ≤ n) (h2 : n ≤ 255) :
    Calls Try.prog 26 #[.int .i64 (n : Int)] w (MadeE w (pairsM n)) := by
  have Hb : Hid (Calls Try.prog 42 #[.int .i64 2, .int .i64 (n : Int)] w fun e w2 => ∃ g c, e = .returned (.slice (some ⟨g, 0, none⟩) 2 c) ∧ 2 ≤ c ∧ PairRelR w w.heap.size w2.heap.size g n c 0 w2) := by
    refine (rblank_any 2 n w (by omega) h1 h2).mono fun e w2 ⟨v, he, hm, hb⟩ => ?_
    obtain ⟨g, c, rfl, hc, _⟩ := hm.head (by simp [blankM])
    rw [show (blankM 2 n).length = 2 by simp [blankM]] at hm he hc
    exact ⟨g, c, he, hc, by rw [← pairsK_zero]; exact hm, hb, rfl, rfl⟩
  have Ht : Hid (∀ (k : Nat) (W : World), Calls Try.prog 20 #[.int .u8 ((ex k : Nat) : Int), .int .u8 2] W fun e w' => e = .returned (.int .u8 ((ex (k + 1) : Nat) : Int)) ∧ W = w') := fun k W => by
    have := rmul_any (ex k) 2 W (ex_lt k) (by omega)
    rw [show (2 : Nat) = ex 1 from rfl, ex_add] at this
    exact this
  have hn' : (n : Int) ≤ 255 := by omega
  have hn1 : 1 ≤ (n : Int) := by omega
  clear h1 h2
  go_enter Try.func26, Try.ntmps26
  go_wp2_with fail
  refine Hb.out.mono ?_
  rintro e w2 ⟨g, cc, rfl, hnc, hst⟩
  have Hst := Lib.hid hst
  generalize w2.heap.size = hi at *
  obtain ⟨lo, hlo⟩ : ∃ lo, lo = w.heap.size := ⟨_, rfl⟩
  rw [← hlo] at Hst
  clear hlo hst Hb
  go_wp2_with fail
  go_loopw [5, 6] (fun pv iv wr => ∃ k p : Nat, pv = .int .u8 (p : Int) ∧ iv = .int .i64 (k : Int) ∧ k ≤ n ∧ Hid (p = ex k ∧ PairRelR w lo hi g n cc k wr)) (fun _ iv _ => n - (intOf iv).toNat)
  case atStart => exact ⟨0, 1, rfl, rfl, Nat.zero_le _, rfl, Hst.out⟩
  case round =>
    obtain ⟨k, p, rfl, rfl, hk, hrel⟩ := hrel
    by_cases hlt : k < n
    · have hlt' : (k : Int) < (n : Int) := by omega
      obtain ⟨hp, hrel2⟩ := hrel.out
      obtain ⟨b, b', c, c', n1, n2, n3, l1, l2, q1, q2, q3, q4, q5, q6, hst⟩ := pairR_facts hrel2 hlt
      rw [← hp] at hst
      have Hs := Lib.hid hst
      have Hc : Hid (∀ W : World, Calls Try.prog 20 #[.int .u8 (p : Int), .int .u8 2] W fun e w' => e = .returned (.int .u8 ((ex (k + 1) : Nat) : Int)) ∧ W = w') := fun W => by
        rw [hp]
        exact Ht.out k W
      have n4 : b' ≠ b := fun e' => n1 e'.symm
      clear hst hrel2 hrel hlt hp
      go_wp2_with fail
      refine (Hc.out _).mono ?_
      rintro e w1 ⟨rfl, rfl⟩
      go_wp2_with fail
      go_roundw
      case rel => exact ⟨k + 1, ex (k + 1), rfl, by go_num, by omega, rfl, Hs.out⟩
      case measure => simp [intOf]; omega
    · obtain rfl : k = n := by omega
      have Hd : Hid (MadeE w (pairsM k) (.returned (.tuple #[.slice (some ⟨g, 0, none⟩) 2 cc, .int .i64 0])) wr) := by
        obtain ⟨_, r1, r2, r3, r4⟩ := hrel.out
        rw [pairsK_done, ← r3, r4] at r1
        exact ⟨some ⟨g, 0, none⟩, cc, rfl, r1, r2⟩
      clear hlt hrel
      go_wp2_with fail
      go_ret2
      exact Hd.out
theorem rpairs_bad (n : Int) (w : World) (h : n < 1 ∨ 255 < n) :
    Calls Try.prog 26 #[.int .i64 n] w fun e w' => e = .returned (.tuple #[.slice none 0 0, .int .i64 1]) ∧ w = w' := by
  by_cases h1 : n < 1
  · clear h
    go_enter Try.func26, Try.ntmps26
    go_wp2_with fail
    go_ret2
    exact ⟨rfl, rfl⟩
  · have h2 : 255 < n := by omega
    have h3 : 1 ≤ n := by omega
    clear h h1
    go_enter Try.func26, Try.ntmps26
    go_wp2_with fail
    go_ret2
    exact ⟨rfl, rfl⟩
end Go.Proofs.Ytbfbjmngcojaoaa
