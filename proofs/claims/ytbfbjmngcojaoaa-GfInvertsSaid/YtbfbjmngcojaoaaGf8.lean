/-
  Matrices that are only read: few, Same, Right.
-/
import Derived.Test.YtbfbjmngcojaoaaGf6
import Derived.Test.YtbfbjmngcojaoaaZText
import Derived.Lib.Strings
namespace Go.Proofs.Ytbfbjmngcojaoaa
open Go.RowKit

set_option maxRecDepth 20000
/-- THE SLICE OF SLICES AT A READS AS M, and lies below block B. -/
def RM (w : World) (B : Nat) (A : Option Addr) (M : List (List UInt8)) : Prop :=
  ∀ (k : Nat) (l : List UInt8), M[k]? = some l → ∃ (b o : Nat) (A' : Option Addr) (c : Nat), A = some ⟨b, o, none⟩ ∧ b < B ∧ w.cell? ⟨b, o + k, none⟩ = some (.slice A' l.length c) ∧ RB w B A' l ∧ l.length ≤ c
section
variable {w w' : World} {B : Nat} {A : Option Addr} {M : List (List UInt8)}
theorem RM.below (h : RM w B A M) (hb : Below B w w') : RM w' B A M := fun k l hl => by
  obtain ⟨b, o, A', c, e, hlt, hc, hr, hcap⟩ := h k l hl
  exact ⟨b, o, A', c, e, hlt, (hb.cell (p := ⟨b, o + k, none⟩) hlt).trans hc, hr.below hb, hcap⟩
theorem RM.wide {B' : Nat} (h : RM w B A M) (hB : B ≤ B') : RM w B' A M := fun k l hl => by
  obtain ⟨b, o, A', c, e, hlt, hc, hr, hcap⟩ := h k l hl
  exact ⟨b, o, A', c, e, by omega, hc, hr.wide hB, hcap⟩
theorem RM.drewN (h : RM w B A M) (n : Nat) : RM (w.drewN n) B A M := h
/-- where it begins -/
theorem RM.at_ (h : RM w B A M) (h0 : 0 < M.length) : ∃ b o, A = some ⟨b, o, none⟩ ∧ b < B := by
  obtain ⟨b, o, _, _, e, hlt, _⟩ := h 0 _ (List.getElem?_eq_getElem h0)
  exact ⟨b, o, e, hlt⟩
theorem RM.row {b o : Nat} (h : RM w B (some ⟨b, o, none⟩) M) {k : Nat} {l : List UInt8} (hl : M[k]? = some l) : ∃ A' c, w.cell? ⟨b, o + k, none⟩ = some (.slice A' l.length c) ∧ RB w B A' l ∧ l.length ≤ c := by
  obtain ⟨b', o', A', c, e, hlt, hc, hr, hcap⟩ := h k l hl
  cases e
  exact ⟨A', c, hc, hr, hcap⟩
theorem RM.nil (w : World) (B : Nat) (A : Option Addr) : RM w B A [] := fun k l hl => by simp at hl
theorem MatO.rm {lo hi : Nat} {v : Value} (h : MatO w lo hi v M) : ∃ A c, v = .slice A M.length c ∧ M.length ≤ c ∧ RM w w.heap.size A M := by
  by_cases h0 : 0 < M.length
  · obtain ⟨g, c, rfl, hc, _, _, hlt, _⟩ := h.head h0
    refine ⟨_, c, rfl, hc, fun k l hl => ?_⟩
    obtain ⟨b, c', hr, _⟩ := h.row hl
    exact ⟨g, 0, some ⟨b, 0, none⟩, c', rfl, hlt, by rw [Nat.zero_add]; exact hr.head, fun j x hx => ⟨_, rfl, hr.lt, by rw [add_flat, Nat.zero_add]; exact hr.cells j x hx⟩, hr.cap⟩
  · obtain ⟨A, c, hv, hc, _⟩ := h.rbb
    exact ⟨A, c, hv, hc, fun k l hl => by have := (List.getElem?_eq_some_iff.1 hl).1; omega⟩
end

def bulkM (M : List (List UInt8)) : Nat := (M.map fun l => 1 + l.length).sum
def fewM (M : List (List UInt8)) : Bool := decide (bulkM M ≤ 2000)
theorem bulkM_take (M : List (List UInt8)) (k : Nat) (l : List UInt8) (h : M[k]? = some l) : bulkM (M.take (k + 1)) = bulkM (M.take k) + 1 + l.length := by
  have hk := (List.getElem?_eq_some_iff.1 h).1
  have hx := (List.getElem?_eq_some_iff.1 h).2
  unfold bulkM
  rw [List.take_succ_eq_append_getElem hk, hx]
  simp [Nat.add_assoc]
set_option maxHeartbeats 1000000 in
theorem few_any (A : Option Addr) (c : Nat) (M : List (List UInt8)) (w : World) (B : Nat) (h : RM w B A M) (hl : M.length ≤ 1048576) (hll : ∀ (k : Nat) (l : List UInt8), M[k]? = some l → l.length ≤ 1048576) :
    Calls Try.prog 21 #[.slice A M.length c] w fun e w' => e = .returned (.bool (fewM M)) ∧ w = w' := by
  obtain ⟨N, hN⟩ : ∃ N, N = M.length := ⟨_, rfl⟩
  have Hh := Lib.hid h
  have HN := Lib.hid hN
  have Hll := Lib.hid hll
  have hNb : (N : Int) ≤ 1048576 := by omega
  rw [← hN]
  clear h hN hl hll
  have Hst : Hid (0 = bulkM (M.take 0) ∧ True) := ⟨rfl, trivial⟩
  go_enter Try.func21, Try.ntmps21
  go_wp2_with fail
  go_loop [3, 4] (fun nv iv => ∃ k n : Nat, iv = .int .i64 (k : Int) ∧ nv = .int .i64 (n : Int) ∧ k ≤ N ∧ n ≤ k * 1048577 ∧ Hid (n = bulkM (M.take k))) (fun _ iv => N - (intOf iv).toNat)
  case atStart => exact ⟨0, 0, rfl, rfl, Nat.zero_le _, Nat.zero_le _, Hst.out.1⟩
  case round =>
    obtain ⟨k, n, rfl, rfl, hk, hn, hrel⟩ := hrel
    by_cases hlt : k < N
    · obtain ⟨l, hx⟩ : ∃ l, M[k]? = some l := ⟨_, List.getElem?_eq_getElem (by rw [← HN.out]; exact hlt)⟩
      obtain ⟨b, o, A', c', rfl, hb, hc, _, _⟩ := Hh.out k l hx
      have hlb := Hll.out k l hx
      have Hs : Hid (n + 1 + l.length = bulkM (M.take (k + 1))) := by show _ = _; rw [bulkM_take M k l hx, ← hrel.out]
      have hk' : (k : Int) < (N : Int) := by omega
      generalize l.length = m at *
      have hm' : (m : Int) ≤ 1048576 := by omega
      have hn' : (n : Int) ≤ 1099512676352 := by omega
      clear hx hlt
      go_wp2_with fail
      go_round
      case rel => exact ⟨k + 1, n + 1 + m, by go_num, by go_num, by omega, by omega, Hs.out⟩
      case measure => simp [intOf]; omega
    · obtain rfl : k = N := by omega
      have Hf : Hid (fewM M = decide ((n : Int) ≤ 2000)) := by
        have e1 : n = bulkM M := by rw [hrel.out, HN.out, List.take_length]
        show _ = _
        unfold fewM
        rw [← e1]
        by_cases hh : n ≤ 2000
        · rw [decide_eq_true hh, decide_eq_true (by omega)]
        · rw [decide_eq_false hh, decide_eq_false (by omega)]
      clear hlt
      go_wp2_with fail
      go_ret
      exact ⟨by rw [Hf.out]; rfl, rfl⟩

def rightB (M : List (List UInt8)) : Bool := decide (1 ≤ M.length ∧ M.length ≤ 255 ∧ 1 ≤ (M.headD []).length ∧ (M.headD []).length ≤ 255 ∧ ∀ l ∈ M, l.length = (M.headD []).length)
theorem head_get {M : List (List UInt8)} (h : 0 < M.length) : M[0]? = some (M.headD []) := by
  cases M with
  | nil => simp at h
  | cons a t => rfl
/-- a right matrix, in numbers -/
theorem right_facts {M : List (List UInt8)} (h : rightB M = true) : ∃ n, 1 ≤ M.length ∧ M.length ≤ 255 ∧ 1 ≤ n ∧ n ≤ 255 ∧ M[0]? = some (M.headD []) ∧ (M.headD []).length = n ∧ ∀ (k : Nat) (l : List UInt8), M[k]? = some l → l.length = n := by
  obtain ⟨h1, h2, h3, h4, h5⟩ := of_decide_eq_true h
  exact ⟨_, h1, h2, h3, h4, head_get h1, rfl, fun k l hl => h5 l (List.mem_of_getElem? hl)⟩
theorem eq_text (a b : ByteArray) : (a.toList == b.toList) = decide (a = b) := by
  rw [Bool.eq_iff_iff]
  simp only [beq_iff_eq, decide_eq_true_eq]
  constructor
  · intro h
    rw [Lib.toList_data, Lib.toList_data] at h
    exact ByteArray.ext (Array.toList_inj.1 h)
  · intro h; rw [h]
theorem eql_str_conv (w : World) (B : Nat) (A : Option Addr) (l : List UInt8) (c : Nat) (hr : RB w B A l) : ∀ q, (convert 46 9 (.slice A l.length c)).run Try.prog (w.drewN q) = .ok (.string ⟨l.toArray⟩) (w.drewN q) := fun q => text_run (w.drewN q) B A l c (hr.drewN q)
set_option maxHeartbeats 1000000 in
theorem same_any (A A2 : Option Addr) (c c2 : Nat) (M M2 : List (List UInt8)) (w : World) (B : Nat) (h : RM w B A M) (h2 : RM w B A2 M2) (hl : M.length ≤ 1048576) :
    Calls Try.prog 24 #[.slice A M.length c, .slice A2 M2.length c2] w fun e w' => e = .returned (.bool (decide (M = M2))) ∧ ∃ q, w' = w.drewN q := by
  by_cases hne : M.length = M2.length
  case neg =>
    have hb : (((M.length : Nat) : Int) != ((M2.length : Nat) : Int)) = true := by simp; omega
    have Hr : Hid (decide (M = M2) = false) := decide_eq_false fun e => hne (by rw [e])
    generalize M.length = n1 at *
    generalize M2.length = n2 at *
    clear h h2 hl hne
    go_enter Try.func24, Try.ntmps24
    go_wp2_with fail
    go_ret
    exact ⟨by rw [Hr.out]; rfl, 0, by simp [World.drewN]⟩
  obtain ⟨N, hN⟩ : ∃ N, N = M.length := ⟨_, rfl⟩
  have HN : Hid (N = M.length ∧ N = M2.length) := ⟨hN, by rw [← hne]; exact hN⟩
  have Hh := Lib.hid h
  have Hh2 := Lib.hid h2
  rw [← hne, ← hN]
  have hNb : (N : Int) ≤ 1048576 := by omega
  clear h h2 hl hne hN
  have Hst : Hid (M.take 0 = M2.take 0) := rfl
  go_enter Try.func24, Try.ntmps24
  go_wp2_with fail
  go_loopw [5] (fun iv wr => ∃ k q : Nat, iv = .int .i64 (k : Int) ∧ k ≤ N ∧ Hid (wr = w.drewN q ∧ M.take k = M2.take k)) (fun iv _ => N - (intOf iv).toNat)
  case atStart => exact ⟨0, 0, rfl, Nat.zero_le _, rfl, Hst.out⟩
  case round =>
    obtain ⟨k, q, rfl, hk, hrel⟩ := hrel
    by_cases hlt : k < N
    · obtain ⟨l, hx⟩ : ∃ l, M[k]? = some l := ⟨_, List.getElem?_eq_getElem (by rw [← HN.out.1]; exact hlt)⟩
      obtain ⟨l2, hx2⟩ : ∃ l2, M2[k]? = some l2 := ⟨_, List.getElem?_eq_getElem (by rw [← HN.out.2]; exact hlt)⟩
      obtain ⟨b, o, A', c', rfl, hb, hc, hr, _⟩ := Hh.out k l hx
      obtain ⟨b2, o2, A2', c2', rfl, hb2, hc2, hr2, _⟩ := Hh2.out k l2 hx2
      obtain ⟨hw, hpre⟩ := hrel.out
      have g1 : wr.cell? ⟨b, o + k, none⟩ = some (.slice A' l.length c') := by rw [hw]; exact hc
      have g2 : wr.cell? ⟨b2, o2 + k, none⟩ = some (.slice A2' l2.length c2') := by rw [hw]; exact hc2
      have t1 := eql_str_conv wr B A' l c' (by rw [hw]; exact hr.drewN q)
      have t2 := eql_str_conv wr B A2' l2 c2' (by rw [hw]; exact hr2.drewN q)
      have Hw := Lib.hid hw
      clear hw
      have hk' : (k : Int) < (N : Int) := by omega
      have Hpre := Lib.hid hpre
      by_cases heq : l = l2
      · subst heq
        have Hn : Hid (∀ nq, wr.drewN nq = w.drewN (q + nq) ∧ M.take (k + 1) = M2.take (k + 1)) := fun nq => ⟨by rw [Hw.out]; simp [World.drewN, Nat.add_assoc], by
          rw [List.take_add_one, List.take_add_one, hx, hx2, Hpre.out]⟩
        generalize (⟨l.toArray⟩ : ByteArray) = X at t1 t2
        generalize l.length = m at *
        clear hx hx2 hr hr2 hc hc2 hpre hrel hlt
        go_wp2_with fail
        go_quiet (fail)
        go_wp2_with fail
        go_roundw
        case rel => exact ⟨k + 1, q + nq, by go_num, by omega, (Hn.out nq).1, (Hn.out nq).2⟩
        case measure => simp [intOf]; omega
      · have Hr : Hid (decide (M = M2) = false) := decide_eq_false fun e => heq (by
          rw [e, hx2] at hx
          exact (Option.some.inj hx).symm)
        have hXY : ¬ (⟨l.toArray⟩ : ByteArray) = ⟨l2.toArray⟩ := fun e => heq (by
          have := congrArg (fun s : ByteArray => s.data.toList) e
          simpa using this)
        generalize (⟨l.toArray⟩ : ByteArray) = X at t1 hXY
        generalize (⟨l2.toArray⟩ : ByteArray) = Y at t2 hXY
        have hXY' : (X.toList == Y.toList) = false := by rw [eq_text]; exact decide_eq_false hXY
        generalize l.length = m at *
        generalize l2.length = m2 at *
        clear hx hx2 hr hr2 hc hc2 hpre hrel hlt heq
        go_wp2_with fail
        go_quiet (fail)
        go_wp2_with fail
        go_ret
        exact ⟨by rw [Hr.out]; rfl, q + nq, by rw [Hw.out]; simp [World.drewN, Nat.add_assoc]⟩
    · obtain rfl : k = N := by omega
      have Hr : Hid (decide (M = M2) = true) := decide_eq_true (by
        have := hrel.out.2
        rw [HN.out.1, List.take_length] at this
        rw [this, ← HN.out.1, HN.out.2, List.take_length])
      have Hw := Lib.hid hrel.out.1
      clear hlt hrel
      go_wp2_with fail
      go_ret
      exact ⟨by rw [Hr.out]; rfl, q, Hw.out⟩
end Go.Proofs.Ytbfbjmngcojaoaa
