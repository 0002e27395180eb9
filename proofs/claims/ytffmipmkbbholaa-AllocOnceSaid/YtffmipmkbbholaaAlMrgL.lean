/-
  slices' symMergeCmpFunc at ints where one of the two stretches has one element.
-/
import Derived.Test.YtffmipmkbbholaaAlMrgMath
namespace Go.Proofs.Ytffmipmkbbholaa
open Go.RowKit Go.Maps Go.Shelf Go.Lib Go.Sort

section
set_option maxRecDepth 100000
set_option maxHeartbeats 8000000
variable {F : Int → Nat}
theorem symL_any (w0 W : World) (blk off cap a b z g : Nat) (cb : Array Value) (d0 : Array Int) (R0 : Row1 eI w0 blk off d0) (pre R post : List Int) (x : Int) (ha : a = pre.length) (hb : b = a + 1 + R.length) (hz : z = d0.size) (hs : (pre ++ [x] ++ R ++ post).length = d0.size) (hsz : d0.size ≤ 1000000)
    (eg : ∀ args w, (callFunc g args).run Try.prog w = .ok (.enter g args) w) (hcmp : CmpLays1 Try.prog g cb eI (cfF F) blk off d0.size w0)
    (hR : Asc F R) (hx : ∀ r ∈ R, x < r) (S : SW eI w0 blk off (pre ++ [x] ++ R ++ post).toArray W) :
    Calls Try.prog 80 #[.slice (some ⟨blk, off, none⟩) z cap, .int .i64 (a : Int), .int .i64 ((a + 1 : Nat) : Int), .int .i64 (b : Int), .func (.func g) #[] cb] W fun e w' => e = .returned (.tuple #[]) ∧ ∃ M, M.Perm ([x] ++ R) ∧ Asc F M ∧ SW eI w0 blk off (pre ++ M ++ post).toArray w' := by
  have mixed : Try.prog.follows Departure.mixedOrders = true := by kernel_rfl
  have hz1 : (z : Int) ≤ 1000000 := by omega
  have hbz : b ≤ z := by rw [hz, ← hs]; simp; omega
  have HC := Lib.hid hcmp
  have HR := Lib.hid hR
  have Hx := Lib.hid hx
  have Rh := Lib.hid R0
  have Hlen : Hid ((pre ++ [x] ++ R ++ post).toArray.size = d0.size) := (show _ = _ from by simpa using hs)
  have S0 : Hid (SW eI w0 blk off (pre ++ [x] ++ R ++ post).toArray W) := S
  obtain ⟨m, hm⟩ : ∃ m, m = a + 1 := ⟨_, rfl⟩
  rw [← hm]
  have w1 : (m : Int) - (a : Int) = 1 := by omega
  have Ha := Lib.hid ha
  have Hz := Lib.hid hz
  have hbm : b = m + R.length := by omega
  have Hbm := Lib.hid hbm
  have hmb : m ≤ b := by omega
  have hm0 : 1 ≤ m := by omega
  have Hm := Lib.hid hm
  clear S R0 hcmp hR hx hs hsz ha hb hz hbm hm
  go_enter Try.func80, Try.ntmps80
  go_wp2_with fail
  go_loopw [10, 11] (fun iv jv wr => ∃ (i j : Nat), iv = .int .i64 (i : Int) ∧ jv = .int .i64 (j : Int) ∧ m ≤ i ∧ i ≤ j ∧ j ≤ b ∧ Hid (∀ k (hk : k < R.length), m + k < i → ltF F R[k] x) ∧ Hid (∀ k (hk : k < R.length), j ≤ m + k → ltF F x R[k]) ∧ Hid (SW eI w0 blk off (pre ++ [x] ++ R ++ post).toArray wr)) (fun iv jv _ => (intOf jv).toNat - (intOf iv).toNat)
  case atStart => exact ⟨m, b, rfl, rfl, Nat.le_refl _, hmb, Nat.le_refl _, (show ∀ k (hk : k < R.length), m + k < m → ltF F R[k] x from fun k hk h => by omega), (show ∀ k (hk : k < R.length), b ≤ m + k → ltF F x R[k] from fun k hk h => by have := Hbm.out; omega), S0.out⟩
  case round =>
    obtain ⟨i, j, rfl, rfl, hmi, hij, hjb, h1, h2, hS⟩ := hrel
    by_cases hlt : i < j
    · have hlt' : (i : Int) < (j : Int) := by omega
      have hj' : (j : Int) ≤ 1000000 := by omega
      obtain ⟨h, hh⟩ : ∃ h, h = (i + j) / 2 := ⟨_, rfl⟩
      have eh : ((i : Int) + (j : Int)) / 2 = (h : Int) := by omega
      have hi2 : i ≤ h := by omega
      have hj2 : h < j := by omega
      have hhz : (h : Int) < (z : Int) := by omega
      have haz : (a : Int) < (z : Int) := by have := Hm.out; omega
      have hk : h - m < R.length := by have := Hbm.out; omega
      have hv : (pre ++ [x] ++ R ++ post).toArray[h]! = R[h - m] := by
        have := get_mid (pre ++ [x]) R post (h - m) hk
        rw [show (pre ++ [x]).length + (h - m) = h by have := Hm.out; have := Ha.out; simp; omega] at this
        exact this
      have hw : (pre ++ [x] ++ R ++ post).toArray[a]! = x := by
        have := get_mid pre [x] (R ++ post) 0 (by simp)
        rw [Nat.add_zero, ← Ha.out] at this
        simpa using this
      have ca := hS.out.cl Rh.out Hlen.out h (by rw [Hlen.out, ← Hz.out]; omega)
      have cb' := hS.out.cl Rh.out Hlen.out a (by rw [Hlen.out, ← Hz.out]; omega)
      rw [hv] at ca
      rw [hw] at cb'
      obtain ⟨r, hr⟩ : ∃ r, r = R[h - m] := ⟨_, rfl⟩
      rw [← hr] at ca
      have hc := hS.out.cmp HC.out Hlen.out r x
      have hxr : x < r := by rw [hr]; exact Hx.out _ (List.getElem_mem _)
      have HS2 : Hid (∀ nq osq, SW eI w0 blk off (pre ++ [x] ++ R ++ post).toArray (grow (wr.drewN nq) osq)) := fun nq osq => hS.out.grown nq osq
      have ea : ((h : Int)).toNat = h := by omega
      have eb : ((a : Int)).toNat = a := by omega
      by_cases hq : cfF F r x < 0
      · have H1' : Hid (∀ k (hk : k < R.length), m + k < h + 1 → ltF F R[k] x) := by
          intro k hk' hlt2
          have hrx : ltF F R[h - m] x := by rw [← hr]; exact (cf_neg hxr).1 hq
          rcases Nat.lt_or_ge k (h - m) with q | q
          · exact (HR.out.at hk q).trans hrx
          · obtain rfl : k = h - m := by omega
            exact hrx
        have hqd : decide (cfF F r x < 0) = true := decide_eq_true hq
        clear h1 hS hv hw hr hxr hh
        go_wp2_with fail
        go_quiet_grown (first | (go_at_fn g; refine Calls.grown_of (hc _ _)))
        have S2 := Lib.hid (HS2.out nq osq)
        clear ca cb' hc HS2
        generalize grow (wr.drewN nq) osq = w2 at S2 ⊢
        clear nq osq
        go_wp2_with fail
        go_roundw
        case rel => exact ⟨h + 1, j, by go_num, by go_num, by omega, by omega, hjb, H1', h2, S2.out⟩
        case measure => simp [intOf]; omega
      · have H2' : Hid (∀ k (hk : k < R.length), h ≤ m + k → ltF F x R[k]) := by
          intro k hk' hlt2
          have hrx : ltF F x R[h - m] := by rw [← hr]; exact (cf_not hxr).1 hq
          rcases Nat.lt_or_ge (h - m) k with q | q
          · exact hrx.trans (HR.out.at hk' q)
          · obtain rfl : k = h - m := by omega
            exact hrx
        have hqd : decide (cfF F r x < 0) = false := decide_eq_false hq
        clear h2 hS hv hw hr hxr hh
        go_wp2_with fail
        go_quiet_grown (first | (go_at_fn g; refine Calls.grown_of (hc _ _)))
        have S2 := Lib.hid (HS2.out nq osq)
        clear ca cb' hc HS2
        generalize grow (wr.drewN nq) osq = w2 at S2 ⊢
        clear nq osq
        go_wp2_with fail
        go_roundw
        case rel => exact ⟨i, h, by go_num, by go_num, hmi, hi2, by omega, h1, H2', S2.out⟩
        case measure => simp [intOf]; omega
    · obtain rfl : i = j := by omega
      obtain ⟨u, rfl⟩ : ∃ u, i = m + u := ⟨i - m, by omega⟩
      have hul : u ≤ R.length := by have := Hbm.out; omega
      have HM : Hid (Asc F (R.take u ++ x :: R.drop u)) := part_left HR.out (fun k hk h => h1.out k hk (by omega)) (fun k hk h => h2.out k hk (by omega))
      have hu2 : (m : Int) + (u : Int) ≤ 1000000 := by omega
      have HSt : Hid (∃ P Q : List Int, R.take u = P ++ Q ∧ P.length = 0 ∧ SW eI w0 blk off (pre ++ P ++ x :: (Q ++ (R.drop u ++ post))).toArray wr) := by
        refine ⟨[], R.take u, rfl, rfl, ?_⟩
        rw [← List.append_assoc (R.take u), List.take_append_drop]
        simpa using hS.out
      clear h1 h2 hS hlt
      go_wp2_with fail
      go_loopw [13] (fun kv wr => ∃ t : Nat, kv = .int .i64 ((a + t : Nat) : Int) ∧ t ≤ u ∧ Hid (∃ P Q : List Int, R.take u = P ++ Q ∧ P.length = t ∧ SW eI w0 blk off (pre ++ P ++ x :: (Q ++ (R.drop u ++ post))).toArray wr)) (fun kv _ => a + u - (intOf kv).toNat)
      case atStart => exact ⟨0, rfl, Nat.zero_le _, HSt.out⟩
      case round =>
        clear HSt
        obtain ⟨t, rfl, htu, hS⟩ := hrel
        have hat : (((a + t : Nat) : Int)) ≤ 1000000 := by have := Hm.out; omega
        by_cases hlt : t < u
        · have Hnx : Hid (∃ y : Int, wr.cell? ⟨blk, off + (a + t), none⟩ = some (eI x) ∧ wr.cell? ⟨blk, off + (a + t + 1), none⟩ = some (eI y) ∧ wr.frozen? ⟨blk, off + (a + t), none⟩ = false ∧ wr.frozen? ⟨blk, off + (a + t + 1), none⟩ = false ∧ (∃ u', (wr.setCell ⟨blk, off + (a + t), none⟩ (eI y)).cell? ⟨blk, off + (a + t + 1), none⟩ = some u') ∧ ∃ P Q : List Int, R.take u = P ++ Q ∧ P.length = t + 1 ∧ SW eI w0 blk off (pre ++ P ++ x :: (Q ++ (R.drop u ++ post))).toArray ((wr.setCell ⟨blk, off + (a + t), none⟩ (eI y)).setCell ⟨blk, off + (a + t + 1), none⟩ (eI x)).drew) := by
            obtain ⟨P, Q, hPQ, hP, hS'⟩ := hS.out
            obtain ⟨y, Q', rfl⟩ : ∃ y Q', Q = y :: Q' := by
              cases Q with
              | nil => have := congrArg List.length hPQ; simp at this; omega
              | cons y Q' => exact ⟨y, Q', rfl⟩
            have hp : (pre ++ P).length = a + t := by simp [Ha.out, hP]
            have hlen : (pre ++ P ++ x :: (y :: Q' ++ (R.drop u ++ post))).toArray.size = d0.size := by
              rw [← Hlen.out]
              have e : R = (P ++ y :: Q') ++ R.drop u := by rw [← hPQ]; simp
              have := congrArg List.length e
              simp at this ⊢
              omega
            have hlt2 : a + t + 1 < (pre ++ P ++ x :: (y :: Q' ++ (R.drop u ++ post))).toArray.size := by rw [← hp]; simp; omega
            have g1 : (pre ++ P ++ x :: (y :: Q' ++ (R.drop u ++ post))).toArray[a + t]! = x := by rw [← hp]; exact get_at _ _ _
            have g2 : (pre ++ P ++ x :: (y :: Q' ++ (R.drop u ++ post))).toArray[a + t + 1]! = y := by
              have := get_at (pre ++ P ++ [x]) (Q' ++ (R.drop u ++ post)) y
              rw [List.length_append, hp, List.append_assoc] at this
              exact this
            have k1 := hS'.c1 Rh.out hlen (a + t) (by omega)
            have k2 := hS'.c1 Rh.out hlen (a + t + 1) hlt2
            rw [g1] at k1
            rw [g2] at k2
            have hsw := hS'.swapped Rh.out (a + t) (a + t + 1) (by omega) hlt2
            rw [g1, g2] at hsw
            refine ⟨y, k1, k2, hS'.f1 Rh.out hlen _ (by omega), hS'.f1 Rh.out hlen _ hlt2, hS'.c2 Rh.out hlen _ _ (by omega) hlt2 _, P ++ [y], Q', by rw [hPQ]; simp, by simp [hP], ?_⟩
            have e : swp (pre ++ P ++ x :: (y :: Q' ++ (R.drop u ++ post))).toArray (a + t) (a + t + 1) = (pre ++ (P ++ [y]) ++ x :: (Q' ++ (R.drop u ++ post))).toArray := by
              rw [← hp]
              have := swp_adj (pre ++ P) (Q' ++ (R.drop u ++ post)) x y
              rw [show x :: (y :: Q' ++ (R.drop u ++ post)) = x :: y :: (Q' ++ (R.drop u ++ post)) from rfl, this]
              simp
            rw [e] at hsw
            exact hsw
          obtain ⟨y, k1, k2, f1, f2, ⟨u', k3⟩, hn⟩ := Hnx.out
          have Hn := Lib.hid hn
          obtain ⟨iN, hiN⟩ : ∃ q, q = a + t := ⟨_, rfl⟩
          obtain ⟨jN, hjN⟩ : ∃ q, q = iN + 1 := ⟨_, rfl⟩
          rw [← hiN] at k1 k2 k3 f1 f2 Hn hat ⊢
          rw [← hjN] at k2 k3 f2 Hn
          have ea : ((iN : Int)).toNat = iN := by omega
          have pa : (0 : Int) ≤ (iN : Int) := by omega
          have ba : (iN : Int) < (z : Int) := by have := Hm.out; have := Hbm.out; omega
          have ec : ((iN : Int) + 1).toNat = jN := by omega
          have rc : IntKind.i64.wrap ((iN : Int) + 1) = (iN : Int) + 1 := by rw [IntKind.wrap_i64]; omega
          have pc : (0 : Int) ≤ (iN : Int) + 1 := by omega
          have bc : (iN : Int) + 1 < (z : Int) := by have := Hm.out; have := Hbm.out; omega
          have hcond : (iN : Int) < (m : Int) + (u : Int) - 1 := by have := Hm.out; omega
          have HiN := Lib.hid hiN
          clear hn Hnx hS hlt hiN hjN
          go_wp2_with fail
          go_big_region_o
          clear k1 k2 k3 f1 f2
          generalize ((wr.setCell ⟨blk, off + iN, none⟩ (eI y)).setCell ⟨blk, off + jN, none⟩ (eI x)).drew = w3 at Hn ⊢
          go_wp2_with fail
          go_roundw
          case rel => exact ⟨t + 1, by rw [show ((a + (t + 1) : Nat) : Int) = (iN : Int) + 1 by have := HiN.out; omega], by have := HiN.out; have := Hm.out; omega, Hn.out⟩
          case measure => simp [intOf]; have := HiN.out; omega
        · obtain rfl : t = u := by omega
          have Hfin : Hid (SW eI w0 blk off (pre ++ (R.take t ++ x :: R.drop t) ++ post).toArray wr) := by
            obtain ⟨P, Q, hPQ, hP, hS'⟩ := hS.out
            have hQ : Q = [] := by
              have := congrArg List.length hPQ
              simp at this
              exact List.length_eq_zero_iff.1 (by omega)
            rw [hQ, List.append_nil] at hPQ
            rw [hQ] at hS'
            rw [hPQ]
            exact (show SW _ _ _ _ _ _ from by simpa using hS')
          have hcond : ¬ (((a + t : Nat)) : Int) < (m : Int) + (t : Int) - 1 := by have := Hm.out; omega
          have HP : Hid ((R.take t ++ x :: R.drop t).Perm ([x] ++ R)) := by
            have h1 : (R.take t ++ x :: R.drop t).Perm (x :: (R.take t ++ R.drop t)) := List.perm_middle
            rw [List.take_append_drop] at h1
            exact h1
          clear hS hlt
          go_wp2_with fail
          try simp only [Exit.inBlock, Exit.then]
          refine bodyPost_ret (results_none rfl _ _ _) rfl ?_
          exact ⟨rfl, _, HP.out, HM.out, by simpa using Hfin.out⟩
end
end Go.Proofs.Ytffmipmkbbholaa
