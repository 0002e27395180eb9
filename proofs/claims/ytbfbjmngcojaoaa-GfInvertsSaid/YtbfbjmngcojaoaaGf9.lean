/-
  Is a matrix right? Both programs'.
-/
import Derived.Test.YtbfbjmngcojaoaaGf8
namespace Go.Proofs.Ytbfbjmngcojaoaa
open Go.RowKit

set_option maxRecDepth 20000
set_option maxHeartbeats 1000000 in
theorem right_any (A : Option Addr) (c : Nat) (M : List (List UInt8)) (w : World) (B : Nat) (h : RM w B A M) (hl : M.length ≤ 1048576) (hll : ∀ (k : Nat) (l : List UInt8), M[k]? = some l → l.length ≤ 1048576) :
    Calls Try.prog 27 #[.slice A M.length c] w fun e w' => e = .returned (.bool (rightB M)) ∧ w = w' := by
  by_cases hr : 1 ≤ M.length ∧ M.length ≤ 255
  case neg =>
    have Hr : Hid (rightB M = false) := decide_eq_false fun q => hr ⟨q.1, q.2.1⟩
    have Hf := Lib.hid (fits_no (M.length : Int) w (by omega))
    generalize M.length = N at *
    clear h hl hll hr
    go_enter Try.func27, Try.ntmps27
    go_wp2_with (go_at_call 40; refine Hf.out.mono ?_; rintro e w1 ⟨rfl, rfl⟩)
    go_ret
    exact ⟨by rw [Hr.out]; rfl, rfl⟩
  obtain ⟨h1, h2⟩ := hr
  have Hf := Lib.hid (fits_yes (M.length : Int) w (by omega) (by omega))
  obtain ⟨b, o, rfl, hb⟩ := h.at_ (by omega)
  obtain ⟨A0, c0, g0, _, _⟩ := h.row (head_get (M := M) (by omega))
  have hn0 := hll 0 _ (head_get (M := M) (by omega))
  obtain ⟨n0, hN0⟩ : ∃ n0, n0 = (M.headD []).length := ⟨_, rfl⟩
  rw [← hN0] at g0 hn0
  obtain ⟨N, hN⟩ : ∃ N, N = M.length := ⟨_, rfl⟩
  have Hh := Lib.hid h
  have HN : Hid (N = M.length ∧ n0 = (M.headD []).length) := ⟨hN, hN0⟩
  rw [← hN] at Hf h1 h2 ⊢
  have hN1 : (0 : Int) < (N : Int) := by omega
  have hN2 : (N : Int) ≤ 255 := by omega
  have hn0' : (n0 : Int) ≤ 1048576 := by omega
  have Hll := Lib.hid hll
  have Hst : Hid (∀ (k : Nat) (l : List UInt8), k < 0 → M[k]? = some l → l.length = n0) := fun k l hk => by omega
  have HN1 := Lib.hid h1
  rw [Nat.add_zero] at g0
  clear h hl hll hN hN0 h1
  go_enter Try.func27, Try.ntmps27
  go_wp2_with (go_at_call 40; refine Hf.out.mono ?_; rintro e w1 ⟨rfl, rfl⟩)
  go_loop [4, 11] (fun _ iv => ∃ k : Nat, iv = .int .i64 (k : Int) ∧ k ≤ N ∧ Hid (∀ (j : Nat) (l : List UInt8), j < k → M[j]? = some l → l.length = n0)) (fun _ iv => N - (intOf iv).toNat)
  case atStart => exact ⟨0, rfl, Nat.zero_le _, Hst.out⟩
  case round =>
    obtain ⟨k, rfl, hk, hrel⟩ := hrel
    by_cases hlt : k < N
    · obtain ⟨l, hx⟩ : ∃ l, M[k]? = some l := ⟨_, List.getElem?_eq_getElem (by rw [← HN.out.1]; exact hlt)⟩
      obtain ⟨A', c', hc, _, _⟩ := Hh.out.row hx
      have hk' : (k : Int) < (N : Int) := by omega
      have hlb := Hll.out k l hx
      by_cases heq : l.length = n0
      · have Hn : Hid (∀ (j : Nat) (l : List UInt8), j < k + 1 → M[j]? = some l → l.length = n0) := fun j l' hj hl' => by
          by_cases hjk : j < k
          · exact hrel.out j l' hjk hl'
          · obtain rfl : j = k := by omega
            rw [hx] at hl'
            cases hl'
            exact heq
        rw [heq] at hc
        clear hx hlb heq hlt hrel
        go_wp2_with fail
        go_round
        case rel => exact ⟨k + 1, by go_num, by omega, Hn.out⟩
        case measure => simp [intOf]; omega
      · have hbb : ((l.length : Int) != (n0 : Int)) = true := by simp; omega
        have Hr : Hid (rightB M = false) := decide_eq_false fun q => heq (by rw [HN.out.2]; exact q.2.2.2.2 l (List.mem_of_getElem? hx))
        generalize l.length = m at *
        clear hx heq hlt hrel
        go_wp2_with fail
        go_ret
        exact ⟨by rw [Hr.out]; rfl, rfl⟩
    · obtain rfl : k = N := by omega
      have Hall : Hid (∀ l ∈ M, l.length = n0) := fun l hl => by
        obtain ⟨j, hj⟩ := List.getElem?_of_mem hl
        exact hrel.out j l (by rw [HN.out.1]; exact (List.getElem?_eq_some_iff.1 hj).1) hj
      by_cases hn : 1 ≤ n0 ∧ n0 ≤ 255
      · have Hf2 := Lib.hid (fits_yes (n0 : Int) w (by omega) (by omega))
        have Hr : Hid (rightB M = true) := decide_eq_true ⟨by rw [← HN.out.1]; exact HN1.out, by rw [← HN.out.1]; omega, by rw [← HN.out.2]; exact hn.1, by rw [← HN.out.2]; exact hn.2, by rw [← HN.out.2]; exact Hall.out⟩
        clear hlt hrel hn
        go_wp2_with (go_at_call 40; refine Hf2.out.mono ?_; rintro e w1 ⟨rfl, rfl⟩)
        go_ret
        exact ⟨by rw [Hr.out]; rfl, rfl⟩
      · have Hf2 := Lib.hid (fits_no (n0 : Int) w (by omega))
        have Hr : Hid (rightB M = false) := decide_eq_false fun q => hn (by rw [HN.out.2]; exact ⟨q.2.2.1, q.2.2.2.1⟩)
        clear hlt hrel hn
        go_wp2_with (go_at_call 40; refine Hf2.out.mono ?_; rintro e w1 ⟨rfl, rfl⟩)
        go_ret
        exact ⟨by rw [Hr.out]; rfl, rfl⟩
set_option maxHeartbeats 1000000 in
theorem rright_any (A : Option Addr) (c : Nat) (M : List (List UInt8)) (w : World) (B : Nat) (h : RM w B A M) (hl : M.length ≤ 1048576) (hll : ∀ (k : Nat) (l : List UInt8), M[k]? = some l → l.length ≤ 1048576) :
    Calls Try.prog 28 #[.slice A M.length c] w fun e w' => e = .returned (.bool (rightB M)) ∧ ∃ q, w' = w.drewN q := by
  by_cases h1 : M.length < 1
  · have Hr : Hid (rightB M = false) := decide_eq_false fun q => by omega
    have h1' : (M.length : Int) < 1 := by omega
    generalize M.length = N at *
    clear h hl hll h1
    go_enter Try.func28, Try.ntmps28
    go_wp2_with fail
    go_ret
    exact ⟨by rw [Hr.out]; rfl, 0, by simp [World.drewN]⟩
  have h1' : 1 ≤ (M.length : Int) := by omega
  by_cases h2 : 255 < M.length
  · have Hr : Hid (rightB M = false) := decide_eq_false fun q => by omega
    have h2' : 255 < (M.length : Int) := by omega
    generalize M.length = N at *
    clear h hl hll h1 h2
    go_enter Try.func28, Try.ntmps28
    go_wp2_with fail
    go_ret
    exact ⟨by rw [Hr.out]; rfl, 0, by simp [World.drewN]⟩
  have h2' : (M.length : Int) ≤ 255 := by omega
  obtain ⟨b, o, rfl, hb⟩ := h.at_ (by omega)
  obtain ⟨A0, c0, g0, _, _⟩ := h.row (head_get (M := M) (by omega))
  have hn0 := hll 0 _ (head_get (M := M) (by omega))
  obtain ⟨n0, hN0⟩ : ∃ n0, n0 = (M.headD []).length := ⟨_, rfl⟩
  rw [← hN0] at g0 hn0
  rw [Nat.add_zero] at g0
  by_cases h3 : n0 < 1
  · have Hr : Hid (rightB M = false) := decide_eq_false fun q => by omega
    have h3' : (n0 : Int) < 1 := by omega
    generalize M.length = N at *
    clear h hl hll h1 h2 h3 hN0 hn0
    go_enter Try.func28, Try.ntmps28
    go_wp2_with fail
    go_ret
    exact ⟨by rw [Hr.out]; rfl, 0, by simp [World.drewN]⟩
  have h3' : 1 ≤ (n0 : Int) := by omega
  by_cases h4 : 255 < n0
  · have Hr : Hid (rightB M = false) := decide_eq_false fun q => by omega
    have h4' : 255 < (n0 : Int) := by omega
    generalize M.length = N at *
    clear h hl hll h1 h2 h3 h4 hN0 hn0
    go_enter Try.func28, Try.ntmps28
    go_wp2_with fail
    go_ret
    exact ⟨by rw [Hr.out]; rfl, 0, by simp [World.drewN]⟩
  have h4' : (n0 : Int) ≤ 255 := by omega
  obtain ⟨N, hN⟩ : ∃ N, N = M.length := ⟨_, rfl⟩
  have Hh := Lib.hid h
  have HN : Hid (N = M.length ∧ n0 = (M.headD []).length ∧ 1 ≤ N ∧ N ≤ 255 ∧ 1 ≤ n0 ∧ n0 ≤ 255) := ⟨hN, hN0, by omega, by omega, by omega, by omega⟩
  rw [← hN] at h1' h2' ⊢
  have Hll := Lib.hid hll
  have Hst : Hid (w = w.drewN 0 ∧ ∀ (k : Nat) (l : List UInt8), k < 1 → M[k]? = some l → l.length = n0) := ⟨by simp [World.drewN], fun k l hk hl => by
    obtain rfl : k = 0 := by omega
    rw [head_get (by omega)] at hl
    cases hl
    exact hN0.symm⟩
  have hN0' : (0 : Int) < (N : Int) := by omega
  clear h hl hll hN hN0 h1 h2 h3 h4 hn0
  go_enter Try.func28, Try.ntmps28
  go_wp2_with fail
  go_loopw [3] (fun iv wr => ∃ k q : Nat, iv = .int .i64 (k : Int) ∧ 1 ≤ k ∧ k ≤ N ∧ Hid (wr = w.drewN q ∧ ∀ (j : Nat) (l : List UInt8), j < k → M[j]? = some l → l.length = n0)) (fun iv _ => N - (intOf iv).toNat)
  case atStart => exact ⟨1, 0, rfl, Nat.le_refl _, by omega, Hst.out⟩
  case round =>
    obtain ⟨k, q, rfl, hk1, hk, hrel⟩ := hrel
    by_cases hlt : k < N
    · obtain ⟨l, hx⟩ : ∃ l, M[k]? = some l := ⟨_, List.getElem?_eq_getElem (by rw [← HN.out.1]; exact hlt)⟩
      obtain ⟨A', c', hc, _, _⟩ := Hh.out.row hx
      obtain ⟨hw, hpre⟩ := hrel.out
      have hk' : (k : Int) < (N : Int) := by omega
      have hlb := Hll.out k l hx
      have q0 : wr.cell? ⟨b, o, none⟩ = some (.slice A0 n0 c0) := by rw [hw]; exact g0
      have Hw := Lib.hid hw
      have Hpre := Lib.hid hpre
      clear hw hpre hrel
      by_cases heq : l.length = n0
      · have Hn : Hid (∀ (j : Nat) (l : List UInt8), j < k + 1 → M[j]? = some l → l.length = n0) := fun j l' hj hl' => by
          by_cases hjk : j < k
          · exact Hpre.out j l' hjk hl'
          · obtain rfl : j = k := by omega
            rw [hx] at hl'
            cases hl'
            exact heq
        rw [heq] at hc
        have q1 : wr.cell? ⟨b, o + k, none⟩ = some (.slice A' n0 c') := by rw [Hw.out]; exact hc
        clear hx hlb heq hlt hc g0
        go_wp2_with fail
        go_quiet (fail)
        go_wp2_with fail
        go_roundw
        case rel => exact ⟨k + 1, q + nq, by go_num, by omega, by omega, by rw [Hw.out]; simp [World.drewN, Nat.add_assoc], Hn.out⟩
        case measure => simp [intOf]; omega
      · have hbb : ((l.length : Int) != (n0 : Int)) = true := by simp; omega
        have Hr : Hid (rightB M = false) := decide_eq_false fun q => heq (by rw [HN.out.2.1]; exact q.2.2.2.2 l (List.mem_of_getElem? hx))
        generalize l.length = m at *
        have q1 : wr.cell? ⟨b, o + k, none⟩ = some (.slice A' m c') := by rw [Hw.out]; exact hc
        clear hx heq hlt hc g0
        go_wp2_with fail
        go_quiet (fail)
        go_wp2_with fail
        go_ret
        exact ⟨by rw [Hr.out]; rfl, q + nq, by rw [Hw.out]; simp [World.drewN, Nat.add_assoc]⟩
    · obtain rfl : k = N := by omega
      have Hw := Lib.hid hrel.out.1
      have Hr : Hid (rightB M = true) := decide_eq_true ⟨by rw [← HN.out.1]; exact hk1, by rw [← HN.out.1]; exact HN.out.2.2.2.1, by rw [← HN.out.2.1]; exact HN.out.2.2.2.2.1, by rw [← HN.out.2.1]; exact HN.out.2.2.2.2.2, fun l hl => by
        obtain ⟨j, hj⟩ := List.getElem?_of_mem hl
        rw [← HN.out.2.1]
        exact hrel.out.2 j l (by rw [HN.out.1]; exact (List.getElem?_eq_some_iff.1 hj).1) hj⟩
      clear hlt hrel
      go_wp2_with fail
      go_ret
      exact ⟨by rw [Hr.out]; rfl, q, Hw.out⟩
end Go.Proofs.Ytbfbjmngcojaoaa
