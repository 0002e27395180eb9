/-
  The laws' helpers: pages.
-/
import Derived.Test.YtlficcdbnmheeaaDoorKSg2
import Derived.Test.YtlficcdbnmheeaaDoorKGf8
namespace Go.Proofs.YtlficcdbnmheeaaDoor
open Go.RowKit Go.Sort Go.Lib

section
set_option maxRecDepth 20000
set_option maxHeartbeats 1000000 in
theorem spages_any (A A2 : Option Addr) (c c2 : Nat) (M M2 : List (List UInt8)) (w : World) (B : Nat) (h : RM w B A M) (h2 : RM w B A2 M2) (hl : M.length ≤ 1048576) :
    Calls Tryd.prog 20 #[.slice A M.length c, .slice A2 M2.length c2] w fun e w' => e = .returned (.bool (decide (M = M2))) ∧ ∃ q, w' = w.drewN q := by
  by_cases hne : M.length = M2.length
  case neg =>
    have hb : (((M.length : Nat) : Int) != ((M2.length : Nat) : Int)) = true := by simp; omega
    have Hr : Hid (decide (M = M2) = false) := decide_eq_false fun e => hne (by rw [e])
    generalize M.length = n1 at *
    generalize M2.length = n2 at *
    clear h h2 hl hne
    go_enter Tryd.func20, Tryd.ntmps20
    go_wp2_with fail
    go_ret
    exact ⟨by rw [Hr.out]; rfl, 0, by simp [World.drewN]⟩
  obtain ⟨N, hN⟩ : ∃ N, N = M.length := ⟨_, rfl⟩
  have HN : Hid (N = M.length ∧ N = M2.length) := ⟨hN, by rw [← hne]; exact hN⟩
  have Hh := Lib.hid h
  have Hh2 := Lib.hid h2
  rw [← hne, ← hN]
  have hNb : (N : Int) ≤ 1048576 := by omega
  clear h h2 hl hne hN
  have Hst : Hid (M.take 0 = M2.take 0) := rfl
  go_enter Tryd.func20, Tryd.ntmps20
  go_wp2_with fail
  go_loopw [5] (fun iv wr => ∃ k q : Nat, iv = .int .i64 (k : Int) ∧ k ≤ N ∧ Hid (wr = w.drewN q ∧ M.take k = M2.take k)) (fun iv _ => N - (intOf iv).toNat)
  case atStart => exact ⟨0, 0, rfl, Nat.zero_le _, rfl, Hst.out⟩
  case round =>
    obtain ⟨k, q, rfl, hk, hrel⟩ := hrel
    by_cases hlt : k < N
    · obtain ⟨l, hx⟩ : ∃ l, M[k]? = some l := ⟨_, List.getElem?_eq_getElem (by rw [← HN.out.1]; exact hlt)⟩
      obtain ⟨l2, hx2⟩ : ∃ l2, M2[k]? = some l2 := ⟨_, List.getElem?_eq_getElem (by rw [← HN.out.2]; exact hlt)⟩
      obtain ⟨b, o, A', c', rfl, hb, hc, hr, _⟩ := Hh.out k l hx
      obtain ⟨b2, o2, A2', c2', rfl, hb2, hc2, hr2, _⟩ := Hh2.out k l2 hx2
      obtain ⟨hw, hpre⟩ := hrel.out
      have g1 : wr.cell? ⟨b, o + k, none⟩ = some (.slice A' l.length c') := by rw [hw]; exact hc
      have g2 : wr.cell? ⟨b2, o2 + k, none⟩ = some (.slice A2' l2.length c2') := by rw [hw]; exact hc2
      have t1 := eql_str_conv wr B A' l c' (by rw [hw]; exact hr.drewN q)
      have t2 := eql_str_conv wr B A2' l2 c2' (by rw [hw]; exact hr2.drewN q)
      have Hw := Lib.hid hw
      clear hw
      have hk' : (k : Int) < (N : Int) := by omega
      have Hpre := Lib.hid hpre
      by_cases heq : l = l2
      · subst heq
        have Hn : Hid (∀ nq, wr.drewN nq = w.drewN (q + nq) ∧ M.take (k + 1) = M2.take (k + 1)) := fun nq => ⟨by rw [Hw.out]; simp [World.drewN, Nat.add_assoc], by
          rw [List.take_add_one, List.take_add_one, hx, hx2, Hpre.out]⟩
        generalize (⟨l.toArray⟩ : ByteArray) = X at t1 t2
        generalize l.length = m at *
        clear hx hx2 hr hr2 hc hc2 hpre hrel hlt
        go_wp2_with fail
        go_quiet (fail)
        go_wp2_with fail
        go_roundw
        case rel => exact ⟨k + 1, q + nq, by go_num, by omega, (Hn.out nq).1, (Hn.out nq).2⟩
        case measure => simp [intOf]; omega
      · have Hr : Hid (decide (M = M2) = false) := decide_eq_false fun e => heq (by
          rw [e, hx2] at hx
          exact (Option.some.inj hx).symm)
        have hXY : ¬ (⟨l.toArray⟩ : ByteArray) = ⟨l2.toArray⟩ := fun e => heq (by
          have := congrArg (fun s : ByteArray => s.data.toList) e
          simpa using this)
        generalize (⟨l.toArray⟩ : ByteArray) = X at t1 hXY
        generalize (⟨l2.toArray⟩ : ByteArray) = Y at t2 hXY
        have hXY' : (X.toList == Y.toList) = false := by rw [eq_text]; exact decide_eq_false hXY
        generalize l.length = m at *
        generalize l2.length = m2 at *
        clear hx hx2 hr hr2 hc hc2 hpre hrel hlt heq
        go_wp2_with fail
        go_quiet (fail)
        go_wp2_with fail
        go_ret
        exact ⟨by rw [Hr.out]; rfl, q + nq, by rw [Hw.out]; simp [World.drewN, Nat.add_assoc]⟩
    · obtain rfl : k = N := by omega
      have Hr : Hid (decide (M = M2) = true) := decide_eq_true (by
        have := hrel.out.2
        rw [HN.out.1, List.take_length] at this
        rw [this, ← HN.out.1, HN.out.2, List.take_length])
      have Hw := Lib.hid hrel.out.1
      clear hlt hrel
      go_wp2_with fail
      go_ret
      exact ⟨by rw [Hr.out]; rfl, q, Hw.out⟩
end
end Go.Proofs.YtlficcdbnmheeaaDoor
