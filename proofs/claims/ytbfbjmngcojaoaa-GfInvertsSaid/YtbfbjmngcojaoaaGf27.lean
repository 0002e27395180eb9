/-
  The law's spoil: rows are written over, and nothing else.
-/
import Derived.Test.YtbfbjmngcojaoaaGf26
namespace Go.Proofs.Ytbfbjmngcojaoaa
open Go.RowKit

set_option maxRecDepth 20000
/-- some rows of the same lengths lie there; all else is as it was -/
def Sp (w : World) (lo hi g n c : Nat) (M : Mtx) (wr : World) : Prop :=
  ∃ M' : Mtx, MatO wr lo hi (.slice (some ⟨g, 0, none⟩) n c) M' ∧ M'.length = M.length ∧ (∀ (k : Nat) (l : List UInt8), M[k]? = some l → ∃ l', M'[k]? = some l' ∧ l'.length = l.length) ∧ Out lo hi w wr
theorem u8_of (z : Int) (h0 : 0 ≤ z) (h1 : z < 256) : ∃ x : UInt8, (x.toNat : Int) = z := ⟨UInt8.ofNat z.toNat, by
  rw [UInt8.toNat_ofNat', Nat.mod_eq_of_lt (by omega)]
  omega⟩
theorem Sp.set {w wr : World} {lo hi g n c : Nat} {M : Mtx} (h : Sp w lo hi g n c M wr) {i j : Nat} {l : List UInt8} (hl : M[i]? = some l) (hj : j < l.length) :
    ∃ b c' x, wr.cell? ⟨g, i, none⟩ = some (.slice (some ⟨b, 0, none⟩) l.length c') ∧ l.length ≤ c' ∧ wr.cell? ⟨b, j, none⟩ = some (.int .u8 ((x : Nat) : Int)) ∧ x < 256 ∧ wr.frozen? ⟨b, j, none⟩ = false ∧
      ∀ z : Int, 0 ≤ z → z < 256 → Sp w lo hi g n c M (wr.setCell ⟨b, j, none⟩ (.int .u8 z)) := by
  obtain ⟨M', h1, h2, h3, h4⟩ := h
  obtain ⟨l', hl', hll⟩ := h3 i l hl
  obtain ⟨b, c', hra, hset⟩ := h1.row hl'
  obtain ⟨x, hx⟩ : ∃ x, l'[j]? = some x := ⟨_, List.getElem?_eq_getElem (by omega)⟩
  refine ⟨b, c', x.toNat, by rw [← hll]; exact hra.head, by rw [← hll]; exact hra.cap, hra.cells j x hx, u8_lt x, hra.free j, fun z z0 z1 => ?_⟩
  obtain ⟨y, hy⟩ := u8_of z z0 z1
  rw [← hy]
  refine ⟨_, hset j y, by rw [List.length_set, h2], fun k lk hk => ?_, h4.set hra.low hra.high _⟩
  obtain ⟨lk', e1, e2⟩ := h3 k lk hk
  by_cases hik : i = k
  · subst hik
    rw [hl'] at e1
    cases e1
    exact ⟨_, by rw [List.getElem?_set, if_pos rfl, if_pos (List.getElem?_eq_some_iff.1 hl').1], by rw [List.length_set]; exact e2⟩
  · exact ⟨lk', by rw [List.getElem?_set, if_neg hik]; exact e1, e2⟩
set_option maxHeartbeats 1600000 in
theorem spoil_any (v : Value) (M : Mtx) (lo hi : Nat) (w : World) (h : MatO w lo hi v M) (hl : M.length ≤ 255) (hll : ∀ (k : Nat) (l : List UInt8), M[k]? = some l → l.length ≤ 255) :
    Calls Try.prog 37 #[v] w fun e w' => e = .returned (.tuple #[]) ∧ Out lo hi w w' := by
  by_cases h0 : 0 < M.length
  case neg =>
    obtain ⟨A, c, rfl, _⟩ := h.rm
    rw [show M.length = 0 by omega]
    clear h hl hll h0
    go_enter Try.func37, Try.ntmps37
    go_wp2_with fail
    have Hw : Hid (Out lo hi w w) := Out.refl _ _ _
    go_loopw [2] (fun iv wr => iv = .int .i64 0 ∧ wr = w) (fun _ _ => 0)
    case atStart => exact ⟨rfl, rfl⟩
    case round =>
      obtain ⟨rfl, rfl⟩ := hrel
      go_wp2_with fail
      go_end0
      exact ⟨rfl, Out.refl _ _ _⟩
  obtain ⟨g, c, rfl, _⟩ := h.head h0
  have Hst : Hid (Sp w lo hi g M.length c M w) := ⟨M, h, rfl, fun k l hk => ⟨l, hk, rfl⟩, Out.refl _ _ _⟩
  obtain ⟨N, hN⟩ : ∃ N, N = M.length := ⟨_, rfl⟩
  have HN := Lib.hid hN
  have Hll := Lib.hid hll
  rw [← hN] at Hst ⊢
  have hN1 : (N : Int) ≤ 255 := by omega
  clear h hl hll h0 hN
  go_enter Try.func37, Try.ntmps37
  go_wp2_with fail
  go_loopw [2] (fun iv wr => ∃ i : Nat, iv = .int .i64 (i : Int) ∧ i ≤ N ∧ Hid (Sp w lo hi g N c M wr)) (fun iv _ => N - (intOf iv).toNat)
  case atStart => exact ⟨0, rfl, Nat.zero_le _, Hst.out⟩
  case round =>
    obtain ⟨i, rfl, hiN, hrel⟩ := hrel
    by_cases hlt : i < N
    · have hlt' : (i : Int) < (N : Int) := by omega
      obtain ⟨l, hx⟩ : ∃ l, M[i]? = some l := ⟨_, List.getElem?_eq_getElem (by rw [← HN.out]; exact hlt)⟩
      obtain ⟨n, hn⟩ : ∃ n, n = l.length := ⟨_, rfl⟩
      have Hx : Hid (M[i]? = some l ∧ n = l.length) := ⟨hx, hn⟩
      have hnb : (n : Int) ≤ 255 := by have := Hll.out i l hx; omega
      have Hrel := Lib.hid hrel.out
      clear hx hn hrel
      obtain ⟨wo, rfl⟩ : ∃ wo : World, wo = wr := ⟨_, rfl⟩
      go_wp2_with fail
      go_loopw [3] (fun jv wz => ∃ j : Nat, jv = .int .i64 (j : Int) ∧ j ≤ n ∧ Hid (Sp w lo hi g N c M wz)) (fun jv _ => n - (intOf jv).toNat)
      case atStart => exact ⟨0, rfl, Nat.zero_le _, Hrel.out⟩
      case round =>
        obtain ⟨j, rfl, hjn, hrel⟩ := hrel
        have hhead : ∃ b c', wr.cell? ⟨g, i, none⟩ = some (.slice (some ⟨b, 0, none⟩) n c') := by
          obtain ⟨M', h1, h2, h3, h4⟩ := hrel.out
          obtain ⟨l', hl', hll⟩ := h3 i l Hx.out.1
          obtain ⟨b, c', hra, hset⟩ := h1.row hl'
          exact ⟨b, c', by rw [Hx.out.2, ← hll]; exact hra.head⟩
        by_cases hjl : j < n
        · have hjl' : (j : Int) < (n : Int) := by omega
          clear hhead
          obtain ⟨b, c', x, k1, k2, k3, k4, k5, k6⟩ := hrel.out.set Hx.out.1 (by rw [← Hx.out.2]; exact hjl)
          rw [← Hx.out.2] at k1 k2
          have Hn := Lib.hid k6
          have k2' : (n : Int) ≤ (c' : Int) := by omega
          have Hn2 : Hid (∀ q (z : Int), 0 ≤ z → z < 256 → Sp w lo hi g N c M ((wr.setCell ⟨b, j, none⟩ (.int .u8 z)).drewN q)) := fun q z z0 z1 => by
            obtain ⟨M', h1, h2, h3, h4⟩ := Hn.out z z0 z1
            exact ⟨M', h1.drewN q, h2, h3, h4.drewN q⟩
          clear k6 hrel hjl
          go_wp2_with fail
          refine wp_region_still_tail 14 (by kernel_rfl) (by kernel_rfl) ?_
          simp only [List.take_succ_cons, List.take_zero, List.drop_succ_cons, List.drop_zero]
          repeat still_step
          try refine wpStill_nil ?_
          change wpList _ _ _ _ _ wr.drew
          go_wp2_with fail
          go_roundw
          case rel => exact ⟨j + 1, by go_num, by omega, Hn2.out 1 _ (by omega) (by omega)⟩
          case measure => simp [intOf]; omega
        · obtain rfl : j = n := by omega
          obtain ⟨b, c', k1⟩ := hhead
          clear hjl
          go_wp2_with fail
          go_roundw
          case rel => exact ⟨i + 1, by go_num, by omega, hrel.out⟩
          case measure => simp [intOf]; omega
    · obtain rfl : i = N := by omega
      have Ho : Hid (Out lo hi w wr) := by
        obtain ⟨_, _, _, _, h4⟩ := hrel.out
        exact h4
      clear hlt hrel
      go_wp2_with fail
      go_end0
      exact ⟨rfl, Ho.out⟩
end Go.Proofs.Ytbfbjmngcojaoaa
