/-
  Matrices that are only read: few, Same, Right.
-/
import Derived.Test.YtonihcgjepfpkaaKGf4
import Derived.Test.YtonihcgjepfpkaaZText
import Derived.Lib.Strings
namespace Go.Proofs.Ytonihcgjepfpkaa
open Go.RowKit

set_option maxRecDepth 20000
/-- THE SLICE OF SLICES AT A READS AS M, and lies below block B. -/
def RM (w : World) (B : Nat) (A : Option Addr) (M : List (List UInt8)) : Prop :=
  ∀ (k : Nat) (l : List UInt8), M[k]? = some l → ∃ (b o : Nat) (A' : Option Addr) (c : Nat), A = some ⟨b, o, none⟩ ∧ b < B ∧ w.cell? ⟨b, o + k, none⟩ = some (.slice A' l.length c) ∧ RB w B A' l ∧ l.length ≤ c
section
variable {w w' : World} {B : Nat} {A : Option Addr} {M : List (List UInt8)}
theorem RM.below (h : RM w B A M) (hb : Below B w w') : RM w' B A M := fun k l hl => by
  obtain ⟨b, o, A', c, e, hlt, hc, hr, hcap⟩ := h k l hl
  exact ⟨b, o, A', c, e, hlt, (hb.cell (p := ⟨b, o + k, none⟩) hlt).trans hc, hr.below hb, hcap⟩
theorem RM.wide {B' : Nat} (h : RM w B A M) (hB : B ≤ B') : RM w B' A M := fun k l hl => by
  obtain ⟨b, o, A', c, e, hlt, hc, hr, hcap⟩ := h k l hl
  exact ⟨b, o, A', c, e, by omega, hc, hr.wide hB, hcap⟩
theorem RM.drewN (h : RM w B A M) (n : Nat) : RM (w.drewN n) B A M := h
/-- where it begins -/
theorem RM.at_ (h : RM w B A M) (h0 : 0 < M.length) : ∃ b o, A = some ⟨b, o, none⟩ ∧ b < B := by
  obtain ⟨b, o, _, _, e, hlt, _⟩ := h 0 _ (List.getElem?_eq_getElem h0)
  exact ⟨b, o, e, hlt⟩
theorem RM.row {b o : Nat} (h : RM w B (some ⟨b, o, none⟩) M) {k : Nat} {l : List UInt8} (hl : M[k]? = some l) : ∃ A' c, w.cell? ⟨b, o + k, none⟩ = some (.slice A' l.length c) ∧ RB w B A' l ∧ l.length ≤ c := by
  obtain ⟨b', o', A', c, e, hlt, hc, hr, hcap⟩ := h k l hl
  cases e
  exact ⟨A', c, hc, hr, hcap⟩
theorem RM.nil (w : World) (B : Nat) (A : Option Addr) : RM w B A [] := fun k l hl => by simp at hl
theorem MatO.rm {lo hi : Nat} {v : Value} (h : MatO w lo hi v M) : ∃ A c, v = .slice A M.length c ∧ M.length ≤ c ∧ RM w w.heap.size A M := by
  by_cases h0 : 0 < M.length
  · obtain ⟨g, c, rfl, hc, _, _, hlt, _⟩ := h.head h0
    refine ⟨_, c, rfl, hc, fun k l hl => ?_⟩
    obtain ⟨b, c', hr, _⟩ := h.row hl
    exact ⟨g, 0, some ⟨b, 0, none⟩, c', rfl, hlt, by rw [Nat.zero_add]; exact hr.head, fun j x hx => ⟨_, rfl, hr.lt, by rw [add_flat, Nat.zero_add]; exact hr.cells j x hx⟩, hr.cap⟩
  · obtain ⟨A, c, hv, hc, _⟩ := h.rbb
    exact ⟨A, c, hv, hc, fun k l hl => by have := (List.getElem?_eq_some_iff.1 hl).1; omega⟩
end

def bulkM (M : List (List UInt8)) : Nat := (M.map fun l => 1 + l.length).sum
def fewM (M : List (List UInt8)) : Bool := decide (bulkM M ≤ 2000)
theorem bulkM_take (M : List (List UInt8)) (k : Nat) (l : List UInt8) (h : M[k]? = some l) : bulkM (M.take (k + 1)) = bulkM (M.take k) + 1 + l.length := by
  have hk := (List.getElem?_eq_some_iff.1 h).1
  have hx := (List.getElem?_eq_some_iff.1 h).2
  unfold bulkM
  rw [List.take_succ_eq_append_getElem hk, hx]
  simp [Nat.add_assoc]
def rightB (M : List (List UInt8)) : Bool := decide (1 ≤ M.length ∧ M.length ≤ 255 ∧ 1 ≤ (M.headD []).length ∧ (M.headD []).length ≤ 255 ∧ ∀ l ∈ M, l.length = (M.headD []).length)
theorem head_get {M : List (List UInt8)} (h : 0 < M.length) : M[0]? = some (M.headD []) := by
  cases M with
  | nil => simp at h
  | cons a t => rfl
/-- a right matrix, in numbers -/
theorem right_facts {M : List (List UInt8)} (h : rightB M = true) : ∃ n, 1 ≤ M.length ∧ M.length ≤ 255 ∧ 1 ≤ n ∧ n ≤ 255 ∧ M[0]? = some (M.headD []) ∧ (M.headD []).length = n ∧ ∀ (k : Nat) (l : List UInt8), M[k]? = some l → l.length = n := by
  obtain ⟨h1, h2, h3, h4, h5⟩ := of_decide_eq_true h
  exact ⟨_, h1, h2, h3, h4, head_get h1, rfl, fun k l hl => h5 l (List.mem_of_getElem? hl)⟩
theorem eq_text (a b : ByteArray) : (a.toList == b.toList) = decide (a = b) := by
  rw [Bool.eq_iff_iff]
  simp only [beq_iff_eq, decide_eq_true_eq]
  constructor
  · intro h
    rw [Lib.toList_data, Lib.toList_data] at h
    exact ByteArray.ext (Array.toList_inj.1 h)
  · intro h; rw [h]
theorem eql_str_conv (w : World) (B : Nat) (A : Option Addr) (l : List UInt8) (c : Nat) (hr : RB w B A l) : ∀ q, (convert 41 9 (.slice A l.length c)).run Try.prog (w.drewN q) = .ok (.string ⟨l.toArray⟩) (w.drewN q) := fun q => text_run (w.drewN q) B A l c (hr.drewN q)
set_option maxHeartbeats 1000000 in
theorem same_any (A A2 : Option Addr) (c c2 : Nat) (M M2 : List (List UInt8)) (w : World) (B : Nat) (h : RM w B A M) (h2 : RM w B A2 M2) (hl : M.length ≤ 1048576) :
    Calls Try.prog 15 #[.slice A M.length c, .slice A2 M2.length c2] w fun e w' => e = .returned (.bool (decide (M = M2))) ∧ ∃ q, w' = w.drewN q := by
  by_cases hne : M.length = M2.length
  case neg =>
    have hb : (((M.length : Nat) : Int) != ((M2.length : Nat) : Int)) = true := by simp; omega
    have Hr : Hid (decide (M = M2) = false) := decide_eq_false fun e => hne (by rw [e])
    generalize M.length = n1 at *
    generalize M2.length = n2 at *
    clear h h2 hl hne
    go_enter Try.func15, Try.ntmps15
    go_wp2_with fail
    go_ret
    exact ⟨by rw [Hr.out]; rfl, 0, by simp [World.drewN]⟩
  obtain ⟨N, hN⟩ : ∃ N, N = M.length := ⟨_, rfl⟩
  have HN : Hid (N = M.length ∧ N = M2.length) := ⟨hN, by rw [← hne]; exact hN⟩
  have Hh := Lib.hid h
  have Hh2 := Lib.hid h2
  rw [← hne, ← hN]
  have hNb : (N : Int) ≤ 1048576 := by omega
  clear h h2 hl hne hN
  have Hst : Hid (M.take 0 = M2.take 0) := rfl
  go_enter Try.func15, Try.ntmps15
  go_wp2_with fail
  go_loopw [5] (fun iv wr => ∃ k q : Nat, iv = .int .i64 (k : Int) ∧ k ≤ N ∧ Hid (wr = w.drewN q ∧ M.take k = M2.take k)) (fun iv _ => N - (intOf iv).toNat)
  case atStart => exact ⟨0, 0, rfl, Nat.zero_le _, rfl, Hst.out⟩
  case round =>
    obtain ⟨k, q, rfl, hk, hrel⟩ := hrel
    by_cases hlt : k < N
    · obtain ⟨l, hx⟩ : ∃ l, M[k]? = some l := ⟨_, List.getElem?_eq_getElem (by rw [← HN.out.1]; exact hlt)⟩
      obtain ⟨l2, hx2⟩ : ∃ l2, M2[k]? = some l2 := ⟨_, List.getElem?_eq_getElem (by rw [← HN.out.2]; exact hlt)⟩
      obtain ⟨b, o, A', c', rfl, hb, hc, hr, _⟩ := Hh.out k l hx
      obtain ⟨b2, o2, A2', c2', rfl, hb2, hc2, hr2, _⟩ := Hh2.out k l2 hx2
      obtain ⟨hw, hpre⟩ := hrel.out
      have g1 : wr.cell? ⟨b, o + k, none⟩ = some (.slice A' l.length c') := by rw [hw]; exact hc
      have g2 : wr.cell? ⟨b2, o2 + k, none⟩ = some (.slice A2' l2.length c2') := by rw [hw]; exact hc2
      have t1 := eql_str_conv wr B A' l c' (by rw [hw]; exact hr.drewN q)
      have t2 := eql_str_conv wr B A2' l2 c2' (by rw [hw]; exact hr2.drewN q)
      have Hw := Lib.hid hw
      clear hw
      have hk' : (k : Int) < (N : Int) := by omega
      have Hpre := Lib.hid hpre
      by_cases heq : l = l2
      · subst heq
        have Hn : Hid (∀ nq, wr.drewN nq = w.drewN (q + nq) ∧ M.take (k + 1) = M2.take (k + 1)) := fun nq => ⟨by rw [Hw.out]; simp [World.drewN, Nat.add_assoc], by
          rw [List.take_add_one, List.take_add_one, hx, hx2, Hpre.out]⟩
        generalize (⟨l.toArray⟩ : ByteArray) = X at t1 t2
        generalize l.length = m at *
        clear hx hx2 hr hr2 hc hc2 hpre hrel hlt
        go_wp2_with fail
        go_quiet (fail)
        go_wp2_with fail
        go_roundw
        case rel => exact ⟨k + 1, q + nq, by go_num, by omega, (Hn.out nq).1, (Hn.out nq).2⟩
        case measure => simp [intOf]; omega
      · have Hr : Hid (decide (M = M2) = false) := decide_eq_false fun e => heq (by
          rw [e, hx2] at hx
          exact (Option.some.inj hx).symm)
        have hXY : ¬ (⟨l.toArray⟩ : ByteArray) = ⟨l2.toArray⟩ := fun e => heq (by
          have := congrArg (fun s : ByteArray => s.data.toList) e
          simpa using this)
        generalize (⟨l.toArray⟩ : ByteArray) = X at t1 hXY
        generalize (⟨l2.toArray⟩ : ByteArray) = Y at t2 hXY
        have hXY' : (X.toList == Y.toList) = false := by rw [eq_text]; exact decide_eq_false hXY
        generalize l.length = m at *
        generalize l2.length = m2 at *
        clear hx hx2 hr hr2 hc hc2 hpre hrel hlt heq
        go_wp2_with fail
        go_quiet (fail)
        go_wp2_with fail
        go_ret
        exact ⟨by rw [Hr.out]; rfl, q + nq, by rw [Hw.out]; simp [World.drewN, Nat.add_assoc]⟩
    · obtain rfl : k = N := by omega
      have Hr : Hid (decide (M = M2) = true) := decide_eq_true (by
        have := hrel.out.2
        rw [HN.out.1, List.take_length] at this
        rw [this, ← HN.out.1, HN.out.2, List.take_length])
      have Hw := Lib.hid hrel.out.1
      clear hlt hrel
      go_wp2_with fail
      go_ret
      exact ⟨by rw [Hr.out]; rfl, q, Hw.out⟩
end Go.Proofs.Ytonihcgjepfpkaa

/-
  Is a matrix right? Both programs'.
-/
namespace Go.Proofs.Ytonihcgjepfpkaa
open Go.RowKit

set_option maxRecDepth 20000
set_option maxHeartbeats 1000000 in
theorem right_any (A : Option Addr) (c : Nat) (M : List (List UInt8)) (w : World) (B : Nat) (h : RM w B A M) (hl : M.length ≤ 1048576) (hll : ∀ (k : Nat) (l : List UInt8), M[k]? = some l → l.length ≤ 1048576) :
    Calls Try.prog 59 #[.slice A M.length c] w fun e w' => e = .returned (.bool (rightB M)) ∧ w = w' := by
  by_cases hr : 1 ≤ M.length ∧ M.length ≤ 255
  case neg =>
    have Hr : Hid (rightB M = false) := decide_eq_false fun q => hr ⟨q.1, q.2.1⟩
    have Hf := Lib.hid (fits_no (M.length : Int) w (by omega))
    generalize M.length = N at *
    clear h hl hll hr
    go_enter Try.func59, Try.ntmps59
    go_wp2_with (go_at_call 44; refine Hf.out.mono ?_; rintro e w1 ⟨rfl, rfl⟩)
    go_ret
    exact ⟨by rw [Hr.out]; rfl, rfl⟩
  obtain ⟨h1, h2⟩ := hr
  have Hf := Lib.hid (fits_yes (M.length : Int) w (by omega) (by omega))
  obtain ⟨b, o, rfl, hb⟩ := h.at_ (by omega)
  obtain ⟨A0, c0, g0, _, _⟩ := h.row (head_get (M := M) (by omega))
  have hn0 := hll 0 _ (head_get (M := M) (by omega))
  obtain ⟨n0, hN0⟩ : ∃ n0, n0 = (M.headD []).length := ⟨_, rfl⟩
  rw [← hN0] at g0 hn0
  obtain ⟨N, hN⟩ : ∃ N, N = M.length := ⟨_, rfl⟩
  have Hh := Lib.hid h
  have HN : Hid (N = M.length ∧ n0 = (M.headD []).length) := ⟨hN, hN0⟩
  rw [← hN] at Hf h1 h2 ⊢
  have hN1 : (0 : Int) < (N : Int) := by omega
  have hN2 : (N : Int) ≤ 255 := by omega
  have hn0' : (n0 : Int) ≤ 1048576 := by omega
  have Hll := Lib.hid hll
  have Hst : Hid (∀ (k : Nat) (l : List UInt8), k < 0 → M[k]? = some l → l.length = n0) := fun k l hk => by omega
  have HN1 := Lib.hid h1
  rw [Nat.add_zero] at g0
  clear h hl hll hN hN0 h1
  go_enter Try.func59, Try.ntmps59
  go_wp2_with (go_at_call 44; refine Hf.out.mono ?_; rintro e w1 ⟨rfl, rfl⟩)
  go_loop [4, 11] (fun _ iv => ∃ k : Nat, iv = .int .i64 (k : Int) ∧ k ≤ N ∧ Hid (∀ (j : Nat) (l : List UInt8), j < k → M[j]? = some l → l.length = n0)) (fun _ iv => N - (intOf iv).toNat)
  case atStart => exact ⟨0, rfl, Nat.zero_le _, Hst.out⟩
  case round =>
    obtain ⟨k, rfl, hk, hrel⟩ := hrel
    by_cases hlt : k < N
    · obtain ⟨l, hx⟩ : ∃ l, M[k]? = some l := ⟨_, List.getElem?_eq_getElem (by rw [← HN.out.1]; exact hlt)⟩
      obtain ⟨A', c', hc, _, _⟩ := Hh.out.row hx
      have hk' : (k : Int) < (N : Int) := by omega
      have hlb := Hll.out k l hx
      by_cases heq : l.length = n0
      · have Hn : Hid (∀ (j : Nat) (l : List UInt8), j < k + 1 → M[j]? = some l → l.length = n0) := fun j l' hj hl' => by
          by_cases hjk : j < k
          · exact hrel.out j l' hjk hl'
          · obtain rfl : j = k := by omega
            rw [hx] at hl'
            cases hl'
            exact heq
        rw [heq] at hc
        clear hx hlb heq hlt hrel
        go_wp2_with fail
        go_round
        case rel => exact ⟨k + 1, by go_num, by omega, Hn.out⟩
        case measure => simp [intOf]; omega
      · have hbb : ((l.length : Int) != (n0 : Int)) = true := by simp; omega
        have Hr : Hid (rightB M = false) := decide_eq_false fun q => heq (by rw [HN.out.2]; exact q.2.2.2.2 l (List.mem_of_getElem? hx))
        generalize l.length = m at *
        clear hx heq hlt hrel
        go_wp2_with fail
        go_ret
        exact ⟨by rw [Hr.out]; rfl, rfl⟩
    · obtain rfl : k = N := by omega
      have Hall : Hid (∀ l ∈ M, l.length = n0) := fun l hl => by
        obtain ⟨j, hj⟩ := List.getElem?_of_mem hl
        exact hrel.out j l (by rw [HN.out.1]; exact (List.getElem?_eq_some_iff.1 hj).1) hj
      by_cases hn : 1 ≤ n0 ∧ n0 ≤ 255
      · have Hf2 := Lib.hid (fits_yes (n0 : Int) w (by omega) (by omega))
        have Hr : Hid (rightB M = true) := decide_eq_true ⟨by rw [← HN.out.1]; exact HN1.out, by rw [← HN.out.1]; omega, by rw [← HN.out.2]; exact hn.1, by rw [← HN.out.2]; exact hn.2, by rw [← HN.out.2]; exact Hall.out⟩
        clear hlt hrel hn
        go_wp2_with (go_at_call 44; refine Hf2.out.mono ?_; rintro e w1 ⟨rfl, rfl⟩)
        go_ret
        exact ⟨by rw [Hr.out]; rfl, rfl⟩
      · have Hf2 := Lib.hid (fits_no (n0 : Int) w (by omega))
        have Hr : Hid (rightB M = false) := decide_eq_false fun q => hn (by rw [HN.out.2]; exact ⟨q.2.2.1, q.2.2.2.1⟩)
        clear hlt hrel hn
        go_wp2_with (go_at_call 44; refine Hf2.out.mono ?_; rintro e w1 ⟨rfl, rfl⟩)
        go_ret
        exact ⟨by rw [Hr.out]; rfl, rfl⟩
set_option maxHeartbeats 1000000 in
theorem rright_any (A : Option Addr) (c : Nat) (M : List (List UInt8)) (w : World) (B : Nat) (h : RM w B A M) (hl : M.length ≤ 1048576) (hll : ∀ (k : Nat) (l : List UInt8), M[k]? = some l → l.length ≤ 1048576) :
    Calls Try.prog 52 #[.slice A M.length c] w fun e w' => e = .returned (.bool (rightB M)) ∧ ∃ q, w' = w.drewN q := by
  by_cases h1 : M.length < 1
  · have Hr : Hid (rightB M = false) := decide_eq_false fun q => by omega
    have h1' : (M.length : Int) < 1 := by omega
    generalize M.length = N at *
    clear h hl hll h1
    go_enter Try.func52, Try.ntmps52
    go_wp2_with fail
    go_ret
    exact ⟨by rw [Hr.out]; rfl, 0, by simp [World.drewN]⟩
  have h1' : 1 ≤ (M.length : Int) := by omega
  by_cases h2 : 255 < M.length
  · have Hr : Hid (rightB M = false) := decide_eq_false fun q => by omega
    have h2' : 255 < (M.length : Int) := by omega
    generalize M.length = N at *
    clear h hl hll h1 h2
    go_enter Try.func52, Try.ntmps52
    go_wp2_with fail
    go_ret
    exact ⟨by rw [Hr.out]; rfl, 0, by simp [World.drewN]⟩
  have h2' : (M.length : Int) ≤ 255 := by omega
  obtain ⟨b, o, rfl, hb⟩ := h.at_ (by omega)
  obtain ⟨A0, c0, g0, _, _⟩ := h.row (head_get (M := M) (by omega))
  have hn0 := hll 0 _ (head_get (M := M) (by omega))
  obtain ⟨n0, hN0⟩ : ∃ n0, n0 = (M.headD []).length := ⟨_, rfl⟩
  rw [← hN0] at g0 hn0
  rw [Nat.add_zero] at g0
  by_cases h3 : n0 < 1
  · have Hr : Hid (rightB M = false) := decide_eq_false fun q => by omega
    have h3' : (n0 : Int) < 1 := by omega
    generalize M.length = N at *
    clear h hl hll h1 h2 h3 hN0 hn0
    go_enter Try.func52, Try.ntmps52
    go_wp2_with fail
    go_ret
    exact ⟨by rw [Hr.out]; rfl, 0, by simp [World.drewN]⟩
  have h3' : 1 ≤ (n0 : Int) := by omega
  by_cases h4 : 255 < n0
  · have Hr : Hid (rightB M = false) := decide_eq_false fun q => by omega
    have h4' : 255 < (n0 : Int) := by omega
    generalize M.length = N at *
    clear h hl hll h1 h2 h3 h4 hN0 hn0
    go_enter Try.func52, Try.ntmps52
    go_wp2_with fail
    go_ret
    exact ⟨by rw [Hr.out]; rfl, 0, by simp [World.drewN]⟩
  have h4' : (n0 : Int) ≤ 255 := by omega
  obtain ⟨N, hN⟩ : ∃ N, N = M.length := ⟨_, rfl⟩
  have Hh := Lib.hid h
  have HN : Hid (N = M.length ∧ n0 = (M.headD []).length ∧ 1 ≤ N ∧ N ≤ 255 ∧ 1 ≤ n0 ∧ n0 ≤ 255) := ⟨hN, hN0, by omega, by omega, by omega, by omega⟩
  rw [← hN] at h1' h2' ⊢
  have Hll := Lib.hid hll
  have Hst : Hid (w = w.drewN 0 ∧ ∀ (k : Nat) (l : List UInt8), k < 1 → M[k]? = some l → l.length = n0) := ⟨by simp [World.drewN], fun k l hk hl => by
    obtain rfl : k = 0 := by omega
    rw [head_get (by omega)] at hl
    cases hl
    exact hN0.symm⟩
  have hN0' : (0 : Int) < (N : Int) := by omega
  clear h hl hll hN hN0 h1 h2 h3 h4 hn0
  go_enter Try.func52, Try.ntmps52
  go_wp2_with fail
  go_loopw [3] (fun iv wr => ∃ k q : Nat, iv = .int .i64 (k : Int) ∧ 1 ≤ k ∧ k ≤ N ∧ Hid (wr = w.drewN q ∧ ∀ (j : Nat) (l : List UInt8), j < k → M[j]? = some l → l.length = n0)) (fun iv _ => N - (intOf iv).toNat)
  case atStart => exact ⟨1, 0, rfl, Nat.le_refl _, by omega, Hst.out⟩
  case round =>
    obtain ⟨k, q, rfl, hk1, hk, hrel⟩ := hrel
    by_cases hlt : k < N
    · obtain ⟨l, hx⟩ : ∃ l, M[k]? = some l := ⟨_, List.getElem?_eq_getElem (by rw [← HN.out.1]; exact hlt)⟩
      obtain ⟨A', c', hc, _, _⟩ := Hh.out.row hx
      obtain ⟨hw, hpre⟩ := hrel.out
      have hk' : (k : Int) < (N : Int) := by omega
      have hlb := Hll.out k l hx
      have q0 : wr.cell? ⟨b, o, none⟩ = some (.slice A0 n0 c0) := by rw [hw]; exact g0
      have Hw := Lib.hid hw
      have Hpre := Lib.hid hpre
      clear hw hpre hrel
      by_cases heq : l.length = n0
      · have Hn : Hid (∀ (j : Nat) (l : List UInt8), j < k + 1 → M[j]? = some l → l.length = n0) := fun j l' hj hl' => by
          by_cases hjk : j < k
          · exact Hpre.out j l' hjk hl'
          · obtain rfl : j = k := by omega
            rw [hx] at hl'
            cases hl'
            exact heq
        rw [heq] at hc
        have q1 : wr.cell? ⟨b, o + k, none⟩ = some (.slice A' n0 c') := by rw [Hw.out]; exact hc
        clear hx hlb heq hlt hc g0
        go_wp2_with fail
        go_quiet (fail)
        go_wp2_with fail
        go_roundw
        case rel => exact ⟨k + 1, q + nq, by go_num, by omega, by omega, by rw [Hw.out]; simp [World.drewN, Nat.add_assoc], Hn.out⟩
        case measure => simp [intOf]; omega
      · have hbb : ((l.length : Int) != (n0 : Int)) = true := by simp; omega
        have Hr : Hid (rightB M = false) := decide_eq_false fun q => heq (by rw [HN.out.2.1]; exact q.2.2.2.2 l (List.mem_of_getElem? hx))
        generalize l.length = m at *
        have q1 : wr.cell? ⟨b, o + k, none⟩ = some (.slice A' m c') := by rw [Hw.out]; exact hc
        clear hx heq hlt hc g0
        go_wp2_with fail
        go_quiet (fail)
        go_wp2_with fail
        go_ret
        exact ⟨by rw [Hr.out]; rfl, q + nq, by rw [Hw.out]; simp [World.drewN, Nat.add_assoc]⟩
    · obtain rfl : k = N := by omega
      have Hw := Lib.hid hrel.out.1
      have Hr : Hid (rightB M = true) := decide_eq_true ⟨by rw [← HN.out.1]; exact hk1, by rw [← HN.out.1]; exact HN.out.2.2.2.1, by rw [← HN.out.2.1]; exact HN.out.2.2.2.2.1, by rw [← HN.out.2.1]; exact HN.out.2.2.2.2.2, fun l hl => by
        obtain ⟨j, hj⟩ := List.getElem?_of_mem hl
        rw [← HN.out.2.1]
        exact hrel.out.2 j l (by rw [HN.out.1]; exact (List.getElem?_eq_some_iff.1 hj).1) hj⟩
      clear hlt hrel
      go_wp2_with fail
      go_ret
      exact ⟨by rw [Hr.out]; rfl, q, Hw.out⟩
end Go.Proofs.Ytonihcgjepfpkaa
