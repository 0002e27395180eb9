/-
  A matrix turned, rows for columns: the program's.
-/
import Derived.Test.YtbfbjmngcojaoaaGf22
namespace Go.Proofs.Ytbfbjmngcojaoaa
open Go.RowKit

set_option maxRecDepth 20000
/-- row a of the turned matrix, i rows done and j elements of the next -/
def turnR (M : Mtx) (i j a : Nat) : List UInt8 := (List.range M.length).map fun b => if b < i ∨ (b = i ∧ a < j) then at2 M b a else 0
def turnK (M : Mtx) (n i j : Nat) : Mtx := (List.range n).map (turnR M i j)
def turnedM (M : Mtx) (n : Nat) : Mtx := (List.range n).map fun a => M.map fun r => r.getD a 0
theorem turnR_length (M : Mtx) (i j a : Nat) : (turnR M i j a).length = M.length := by simp [turnR]
theorem turnK_length (M : Mtx) (n i j : Nat) : (turnK M n i j).length = n := by simp [turnK]
theorem turnR_get (M : Mtx) (i j a b : Nat) (h : b < M.length) : (turnR M i j a)[b]? = some (if b < i ∨ (b = i ∧ a < j) then at2 M b a else 0) := by
  unfold turnR
  rw [List.getElem?_map, List.getElem?_range h]; rfl
theorem turnK_get (M : Mtx) (n i j a : Nat) (h : a < n) : (turnK M n i j)[a]? = some (turnR M i j a) := by
  unfold turnK
  rw [List.getElem?_map, List.getElem?_range h]; rfl
theorem turnK_zero (M : Mtx) (n : Nat) : blankM n M.length = turnK M n 0 0 := by
  apply List.ext_getElem?
  intro a
  by_cases h : a < n
  · unfold blankM
    rw [turnK_get M n 0 0 a h, List.getElem?_replicate, if_pos h]
    congr 1
    apply List.ext_getElem?
    intro b
    by_cases hb : b < M.length
    · rw [turnR_get M 0 0 a b hb, List.getElem?_replicate, if_pos hb, if_neg (by omega)]
    · rw [List.getElem?_eq_none (by simp; omega), List.getElem?_eq_none (by rw [turnR_length]; omega)]
  · rw [List.getElem?_eq_none (by simp [blankM]; omega), List.getElem?_eq_none (by rw [turnK_length]; omega)]
theorem turnK_step (M : Mtx) (n i j : Nat) (hi : i < M.length) (hj : j < n) : (turnK M n i j).set j ((turnR M i j j).set i (at2 M i j)) = turnK M n i (j + 1) := by
  apply List.ext_getElem?
  intro a
  by_cases h : a < n
  · rw [List.getElem?_set, turnK_length, turnK_get M n i j a h, turnK_get M n i (j + 1) a h]
    by_cases e : j = a
    · subst e
      rw [if_pos rfl, if_pos hj]
      congr 1
      apply List.ext_getElem?
      intro b
      by_cases hb : b < M.length
      · rw [List.getElem?_set, turnR_length, turnR_get M i j j b hb, turnR_get M i (j + 1) j b hb]
        by_cases e2 : i = b
        · subst e2
          rw [if_pos rfl, if_pos hi, if_pos (by omega)]
        · rw [if_neg e2]
          by_cases h1 : b < i
          · rw [if_pos (.inl h1), if_pos (.inl h1)]
          · rw [if_neg (by omega), if_neg (by omega)]
      · rw [List.getElem?_eq_none (by rw [List.length_set, turnR_length]; omega), List.getElem?_eq_none (by rw [turnR_length]; omega)]
    · rw [if_neg e]
      congr 1
      apply List.ext_getElem?
      intro b
      by_cases hb : b < M.length
      · rw [turnR_get M i j a b hb, turnR_get M i (j + 1) a b hb]
        by_cases h1 : b < i ∨ (b = i ∧ a < j)
        · rw [if_pos h1, if_pos (by omega)]
        · rw [if_neg h1, if_neg (by omega)]
      · rw [List.getElem?_eq_none (by rw [turnR_length]; omega), List.getElem?_eq_none (by rw [turnR_length]; omega)]
  · rw [List.getElem?_eq_none (by rw [List.length_set, turnK_length]; omega), List.getElem?_eq_none (by rw [turnK_length]; omega)]
theorem turnK_next (M : Mtx) (n i : Nat) : turnK M n i n = turnK M n (i + 1) 0 := by
  unfold turnK turnR
  apply List.map_congr_left
  intro a ha
  have ha' := List.mem_range.1 ha
  apply List.map_congr_left
  intro b _
  by_cases h1 : b < i ∨ (b = i ∧ a < n)
  · rw [if_pos h1, if_pos (by omega)]
  · rw [if_neg h1, if_neg (by omega)]
theorem turnK_done (M : Mtx) (n : Nat) : turnK M n M.length 0 = turnedM M n := by
  unfold turnK turnedM
  apply List.map_congr_left
  intro a _
  apply List.ext_getElem?
  intro b
  by_cases hb : b < M.length
  · rw [turnR_get M M.length 0 a b hb, if_pos (.inl hb), List.getElem?_map, List.getElem?_eq_getElem hb]
    unfold at2
    rw [List.getD_eq_getElem?_getD (l := M), List.getElem?_eq_getElem hb]; rfl
  · rw [List.getElem?_eq_none (by rw [turnR_length]; omega), List.getElem?_eq_none (by simp; omega)]
def TurnRel (w : World) (M : Mtx) (lo hi g n i j : Nat) (wr : World) : Prop := MatO wr lo hi (.slice (some ⟨g, 0, none⟩) n n) (turnK M n i j) ∧ Below w.heap.size w wr ∧ wr.heap.size = hi ∧ lo = w.heap.size
set_option maxHeartbeats 1600000 in
theorem turned_any (A : Option Addr) (c N n : Nat) (M : Mtx) (w : World) (h : RM w w.heap.size A M) (hN : N = M.length) (h1 : 1 ≤ N) (h2 : N ≤ 255) (h3 : 1 ≤ n) (h4 : n ≤ 255) (hn : ∀ (k : Nat) (l : List UInt8), M[k]? = some l → l.length = n) :
    Calls Try.prog 43 #[.slice A N c] w fun e w' => e = .returned (.slice (some ⟨w.heap.size, 0, none⟩) n n) ∧ MatO w' w.heap.size w'.heap.size (.slice (some ⟨w.heap.size, 0, none⟩) n n) (turnedM M n) ∧ Below w.heap.size w w' := by
  have Hb := Lib.hid (blank_any n N w h3 h4 h1 h2)
  obtain ⟨b, o, rfl, hb⟩ := h.at_ (by omega)
  obtain ⟨A0, c0, q0, _, _⟩ := h.row (head_get (M := M) (by omega))
  rw [hn 0 _ (head_get (M := M) (by omega)), Nat.add_zero] at q0
  have Hh := Lib.hid h
  have Hn := Lib.hid hn
  have HN := Lib.hid hN
  have hN0 : (0 : Int) < (N : Int) := by omega
  have hN1 : (N : Int) ≤ 255 := by omega
  have hn1 : (n : Int) ≤ 255 := by omega
  have Hlt := Lib.hid hb
  clear h hn hN h1 h2 h3 h4 hb
  go_enter Try.func43, Try.ntmps43
  go_wp2_with fail
  refine Hb.out.mono ?_
  rintro e w2 ⟨rfl, hm2, hb2⟩
  have Hst : Hid (TurnRel w M w.heap.size w2.heap.size w.heap.size n 0 0 w2) := ⟨by rw [← turnK_zero, ← HN.out]; exact hm2, hb2, rfl, rfl⟩
  clear hm2 hb2 q0 Hb
  generalize w2.heap.size = hi at *
  obtain ⟨g, hg⟩ : ∃ g, g = w.heap.size := ⟨_, rfl⟩
  obtain ⟨lo, hlo⟩ : ∃ lo, lo = w.heap.size := ⟨_, rfl⟩
  rw [← hg]
  have Hst2 : Hid (TurnRel w M lo hi g n 0 0 w2) := by rw [hg, hlo]; exact Hst.out
  have HG := Lib.hid hg
  clear hg hlo Hst
  go_wp2_with fail
  go_loopw [4, 5, 17] (fun _ _ iv wr => ∃ i : Nat, iv = .int .i64 (i : Int) ∧ i ≤ N ∧ Hid (TurnRel w M lo hi g n i 0 wr)) (fun _ _ iv _ => N - (intOf iv).toNat)
  case atStart => exact ⟨0, rfl, Nat.zero_le _, Hst2.out⟩
  case round =>
    obtain ⟨i, rfl, hiN, hrel⟩ := hrel
    by_cases hlt : i < N
    · obtain ⟨r, hr⟩ : ∃ r, M[i]? = some r := ⟨_, List.getElem?_eq_getElem (by rw [← HN.out]; exact hlt)⟩
      obtain ⟨A', c', hc, hrb, _⟩ := Hh.out.row hr
      have hc0 : wr.cell? ⟨b, o + i, none⟩ = some (.slice A' r.length c') := (hrel.out.2.1.cell (p := ⟨b, o + i, none⟩) Hlt.out).trans hc
      have hlt' : (i : Int) < (N : Int) := by omega
      have Hr : Hid (M.getD i [] = r ∧ r.length = n ∧ RB w w.heap.size A' r ∧ i < M.length) := ⟨by rw [List.getD_eq_getElem?_getD, hr]; rfl, Hn.out i r hr, hrb, by rw [← HN.out]; exact hlt⟩
      rw [Hr.out.2.1] at hc0
      have Hrel := Lib.hid hrel.out
      clear hr hc hrb hrel
      obtain ⟨wo, rfl⟩ : ∃ wo : World, wo = wr := ⟨_, rfl⟩
      go_wp2_with fail
      clear hc0
      go_loopw [6, 7, 24] (fun _ _ jv wz => ∃ j : Nat, jv = .int .i64 (j : Int) ∧ j ≤ n ∧ Hid (TurnRel w M lo hi g n i j wz)) (fun _ _ jv _ => n - (intOf jv).toNat)
      case atStart => exact ⟨0, rfl, Nat.zero_le _, Hrel.out⟩
      case round =>
        obtain ⟨j, rfl, hj, hrel⟩ := hrel
        by_cases hjl : j < n
        · have hjl' : (j : Int) < (n : Int) := by omega
          obtain ⟨b', o', rfl, hb'⟩ := Hr.out.2.2.1.flat (by have := Hr.out.2.1; omega)
          obtain ⟨x, hx⟩ : ∃ x, r[j]? = some x := ⟨_, List.getElem?_eq_getElem (by rw [Hr.out.2.1]; exact hjl)⟩
          have k1 : wr.cell? ⟨b', o' + j, none⟩ = some (.int .u8 (x.toNat : Int)) := by
            obtain ⟨ad, e, _, hc⟩ := Hr.out.2.2.1 j x hx
            cases e
            rw [add_flat] at hc
            exact (hrel.out.2.1.cell (p := ⟨b', o' + j, none⟩) hb').trans hc
          obtain ⟨r1, r2, r3, r4⟩ := hrel.out
          obtain ⟨b5, c5, hra, hset⟩ := r1.row (i := j) (turnK_get M n i j j hjl)
          have k2 := hra.head
          rw [turnR_length, ← HN.out] at k2
          have k3 := hra.cap
          rw [turnR_length, ← HN.out] at k3
          have k4 := hra.cells i _ (turnR_get M i j j i Hr.out.2.2.2)
          have k5 := hra.free i
          have k3' : (N : Int) ≤ (c5 : Int) := by omega
          have Hnx : Hid (TurnRel w M lo hi g n i (j + 1) (wr.setCell ⟨b5, i, none⟩ (.int .u8 (x.toNat : Int)))) := by
            have := hset i x
            have e : x = at2 M i j := by
              unfold at2
              rw [Hr.out.1, List.getD_eq_getElem?_getD, hx]; rfl
            rw [e] at this ⊢
            rw [turnK_step M n i j Hr.out.2.2.2 hjl] at this
            exact ⟨this, r2.setCell (p := ⟨b5, i, none⟩) (by rw [← r4]; exact hra.low) _, by simp [World.setCell, r3], r4⟩
          generalize x.toNat = xn at *
          clear hx hrel hb' hjl r1 r2 r3 r4 hra hset
          go_wp2_with fail
          go_roundw
          case rel => exact ⟨j + 1, by go_num, by omega, Hnx.out⟩
          case measure => simp [intOf]; omega
        · obtain rfl : j = n := by omega
          have Hnx : Hid (TurnRel w M lo hi g j (i + 1) 0 wr) := by
            have := hrel.out
            unfold TurnRel at this ⊢
            rw [turnK_next] at this
            exact this
          clear hjl hrel
          go_wp2_with fail
          go_roundw
          case rel => exact ⟨i + 1, by go_num, by omega, Hnx.out⟩
          case measure => simp [intOf]; omega
    · obtain rfl : i = N := by omega
      have Hd : Hid (MatO wr w.heap.size wr.heap.size (.slice (some ⟨g, 0, none⟩) n n) (turnedM M n) ∧ Below w.heap.size w wr) := by
        obtain ⟨r1, r2, r3, r4⟩ := hrel.out
        rw [HN.out, turnK_done, ← r3, r4] at r1
        exact ⟨r1, r2⟩
      clear hlt hrel
      go_wp2_with fail
      go_ret
      exact ⟨by rw [HG.out]; rfl, by rw [← HG.out] at *; exact Hd.out.1, Hd.out.2⟩
end Go.Proofs.Ytbfbjmngcojaoaa
