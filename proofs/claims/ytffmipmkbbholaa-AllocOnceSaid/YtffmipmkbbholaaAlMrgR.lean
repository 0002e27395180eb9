/-
  slices' symMergeCmpFunc at ints where the second of the two stretches has one element, the first has more.
-/
import Derived.Test.YtffmipmkbbholaaAlMrgMath
namespace Go.Proofs.Ytffmipmkbbholaa
open Go.RowKit Go.Maps Go.Shelf Go.Lib Go.Sort

section
set_option maxRecDepth 100000
set_option maxHeartbeats 8000000
variable {F : Int → Nat}
theorem symR_any (w0 W : World) (blk off cap a m z g : Nat) (cb : Array Value) (d0 : Array Int) (R0 : Row1 eI w0 blk off d0) (pre R post : List Int) (x : Int) (ha : a = pre.length) (hm : m = a + R.length) (hl2 : 2 ≤ R.length) (hz : z = d0.size) (hs : (pre ++ R ++ [x] ++ post).length = d0.size) (hsz : d0.size ≤ 1000000)
    (eg : ∀ args w, (callFunc g args).run Try.prog w = .ok (.enter g args) w) (hcmp : CmpLays1 Try.prog g cb eI (cfF F) blk off d0.size w0)
    (hR : Asc F R) (hx : ∀ r ∈ R, r < x) (S : SW eI w0 blk off (pre ++ R ++ [x] ++ post).toArray W) :
    Calls Try.prog 80 #[.slice (some ⟨blk, off, none⟩) z cap, .int .i64 (a : Int), .int .i64 (m : Int), .int .i64 ((m + 1 : Nat) : Int), .func (.func g) #[] cb] W fun e w' => e = .returned (.tuple #[]) ∧ ∃ M, M.Perm (R ++ [x]) ∧ Asc F M ∧ SW eI w0 blk off (pre ++ M ++ post).toArray w' := by
  have mixed : Try.prog.follows Departure.mixedOrders = true := by kernel_rfl
  have hz1 : (z : Int) ≤ 1000000 := by omega
  have hbz : m + 1 ≤ z := by rw [hz, ← hs]; simp; omega
  have HC := Lib.hid hcmp
  have HR := Lib.hid hR
  have Hx := Lib.hid hx
  have Rh := Lib.hid R0
  have Hlen : Hid ((pre ++ R ++ [x] ++ post).toArray.size = d0.size) := (show _ = _ from by simpa using hs)
  have S0 : Hid (SW eI w0 blk off (pre ++ R ++ [x] ++ post).toArray W) := S
  obtain ⟨b, hb⟩ : ∃ b, b = m + 1 := ⟨_, rfl⟩
  rw [← hb]
  have w1' : ¬ (m : Int) - (a : Int) = 1 := by omega
  have w1 : ((m : Int) - (a : Int) == 1) = false := by simpa using w1'
  have w2 : (b : Int) - (m : Int) = 1 := by omega
  have Ha := Lib.hid ha
  have Hz := Lib.hid hz
  have Hm := Lib.hid hm
  have Hb := Lib.hid hb
  have hbz' : b ≤ z := by omega
  have ham : a ≤ m := by omega
  have hmb : m ≤ b := by omega
  clear S R0 hcmp hR hx hs hsz ha hb hz hm hl2 hbz
  go_enter Try.func80, Try.ntmps80
  go_wp2_with fail
  try simp only [w1]
  go_loopw [14, 15] (fun iv jv wr => ∃ (i j : Nat), iv = .int .i64 (i : Int) ∧ jv = .int .i64 (j : Int) ∧ a ≤ i ∧ i ≤ j ∧ j ≤ m ∧ Hid (∀ k (hk : k < R.length), a + k < i → ltF F R[k] x) ∧ Hid (∀ k (hk : k < R.length), j ≤ a + k → ltF F x R[k]) ∧ Hid (SW eI w0 blk off (pre ++ R ++ [x] ++ post).toArray wr)) (fun iv jv _ => (intOf jv).toNat - (intOf iv).toNat)
  case atStart => exact ⟨a, m, rfl, rfl, Nat.le_refl _, ham, Nat.le_refl _, (show ∀ k (hk : k < R.length), a + k < a → ltF F R[k] x from fun k hk h => by omega), (show ∀ k (hk : k < R.length), m ≤ a + k → ltF F x R[k] from fun k hk h => by have := Hm.out; omega), S0.out⟩
  case round =>
    obtain ⟨i, j, rfl, rfl, hmi, hij, hjb, h1, h2, hS⟩ := hrel
    by_cases hlt : i < j
    · have hlt' : (i : Int) < (j : Int) := by omega
      have hj' : (j : Int) ≤ 1000000 := by omega
      obtain ⟨h, hh⟩ : ∃ h, h = (i + j) / 2 := ⟨_, rfl⟩
      have eh : ((i : Int) + (j : Int)) / 2 = (h : Int) := by omega
      have hi2 : i ≤ h := by omega
      have hj2 : h < j := by omega
      have hhz : (h : Int) < (z : Int) := by omega
      have haz : (m : Int) < (z : Int) := by have := Hb.out; omega
      have hk : h - a < R.length := by have := Hm.out; omega
      have hv : (pre ++ R ++ [x] ++ post).toArray[h]! = R[h - a] := by
        have := get_mid pre R ([x] ++ post) (h - a) hk
        rw [show pre.length + (h - a) = h by have := Ha.out; omega] at this
        simpa using this
      have hw : (pre ++ R ++ [x] ++ post).toArray[m]! = x := by
        have := get_mid (pre ++ R) [x] post 0 (by simp)
        rw [Nat.add_zero, show (pre ++ R).length = m by have := Ha.out; have := Hm.out; simp; omega] at this
        simpa using this
      have ca := hS.out.cl Rh.out Hlen.out h (by rw [Hlen.out, ← Hz.out]; omega)
      have cb' := hS.out.cl Rh.out Hlen.out m (by rw [Hlen.out, ← Hz.out]; omega)
      rw [hv] at ca
      rw [hw] at cb'
      obtain ⟨r, hr⟩ : ∃ r, r = R[h - a] := ⟨_, rfl⟩
      rw [← hr] at ca
      have hc := hS.out.cmp HC.out Hlen.out x r
      have hxr : r < x := by rw [hr]; exact Hx.out _ (List.getElem_mem _)
      have HS2 : Hid (∀ nq osq, SW eI w0 blk off (pre ++ R ++ [x] ++ post).toArray (grow (wr.drewN nq) osq)) := fun nq osq => hS.out.grown nq osq
      have ea : ((h : Int)).toNat = h := by omega
      have eb : ((m : Int)).toNat = m := by omega
      by_cases hq : cfF F x r < 0
      · have H2' : Hid (∀ k (hk : k < R.length), h ≤ a + k → ltF F x R[k]) := by
          intro k hk' hlt2
          have hrx : ltF F x R[h - a] := by rw [← hr]; exact (cf_neg hxr).1 hq
          rcases Nat.lt_or_ge (h - a) k with q | q
          · exact hrx.trans (HR.out.at hk' q)
          · obtain rfl : k = h - a := by omega
            exact hrx
        have hqd : decide (cfF F x r < 0) = true := decide_eq_true hq
        clear h2 hS hv hw hr hxr hh
        go_wp2_with fail
        go_quiet_grown (first | (go_at_fn g; refine Calls.grown_of (hc _ _)))
        have S2 := Lib.hid (HS2.out nq osq)
        clear ca cb' hc HS2
        generalize grow (wr.drewN nq) osq = w2 at S2 ⊢
        clear nq osq
        go_wp2_with fail
        go_roundw
        case rel => exact ⟨i, h, by go_num, by go_num, hmi, hi2, by omega, h1, H2', S2.out⟩
        case measure => simp [intOf]; omega
      · have H1' : Hid (∀ k (hk : k < R.length), a + k < h + 1 → ltF F R[k] x) := by
          intro k hk' hlt2
          have hrx : ltF F R[h - a] x := by rw [← hr]; exact (cf_not hxr).1 hq
          rcases Nat.lt_or_ge k (h - a) with q | q
          · exact (HR.out.at hk q).trans hrx
          · obtain rfl : k = h - a := by omega
            exact hrx
        have hqd : decide (cfF F x r < 0) = false := decide_eq_false hq
        clear h1 hS hv hw hr hxr hh
        go_wp2_with fail
        go_quiet_grown (first | (go_at_fn g; refine Calls.grown_of (hc _ _)))
        have S2 := Lib.hid (HS2.out nq osq)
        clear ca cb' hc HS2
        generalize grow (wr.drewN nq) osq = w2 at S2 ⊢
        clear nq osq
        go_wp2_with fail
        go_roundw
        case rel => exact ⟨h + 1, j, by go_num, by go_num, by omega, by omega, hjb, H1', h2, S2.out⟩
        case measure => simp [intOf]; omega
    · obtain rfl : i = j := by omega
      obtain ⟨u, rfl⟩ : ∃ u, i = a + u := ⟨i - a, by omega⟩
      have hul : u ≤ R.length := by have := Hm.out; omega
      have HM : Hid (Asc F (R.take u ++ x :: R.drop u)) := part_left HR.out (fun k hk h => h1.out k hk (by omega)) (fun k hk h => h2.out k hk (by omega))
      have hu2 : (a : Int) + (u : Int) ≤ 1000000 := by omega
      obtain ⟨q0, hq0⟩ : ∃ q0, m = a + u + q0 := ⟨m - (a + u), by omega⟩
      have HSt : Hid (∃ Q P : List Int, R.drop u = Q ++ P ∧ Q.length = q0 ∧ SW eI w0 blk off (pre ++ R.take u ++ Q ++ x :: (P ++ post)).toArray wr) := by
        refine ⟨R.drop u, [], by simp, by have := Hm.out; simp; omega, ?_⟩
        rw [List.append_assoc pre, List.take_append_drop]
        simpa using hS.out
      have hq2 : (a : Int) + (u : Int) + (q0 : Int) = (m : Int) := by omega
      clear h1 h2 hS hlt
      go_wp2_with fail
      go_loopw [17] (fun kv wr => ∃ q : Nat, kv = .int .i64 ((a + u + q : Nat) : Int) ∧ q ≤ q0 ∧ Hid (∃ Q P : List Int, R.drop u = Q ++ P ∧ Q.length = q ∧ SW eI w0 blk off (pre ++ R.take u ++ Q ++ x :: (P ++ post)).toArray wr)) (fun kv _ => (intOf kv).toNat)
      case atStart => exact ⟨q0, by rw [show ((a + u + q0 : Nat) : Int) = (m : Int) by omega], Nat.le_refl _, HSt.out⟩
      case round =>
        clear HSt
        obtain ⟨q, rfl, htu, hS⟩ := hrel
        have hat : (((a + u + q : Nat) : Int)) ≤ 1000000 := by omega
        by_cases hlt : 0 < q
        · have Hnx : Hid (∃ (jN : Nat) (y : Int), a + u + q = jN + 1 ∧ wr.cell? ⟨blk, off + (a + u + q), none⟩ = some (eI x) ∧ wr.cell? ⟨blk, off + jN, none⟩ = some (eI y) ∧ wr.frozen? ⟨blk, off + (a + u + q), none⟩ = false ∧ wr.frozen? ⟨blk, off + jN, none⟩ = false ∧ (∃ u', (wr.setCell ⟨blk, off + (a + u + q), none⟩ (eI y)).cell? ⟨blk, off + jN, none⟩ = some u') ∧ ∃ Q P : List Int, R.drop u = Q ++ P ∧ Q.length = q - 1 ∧ SW eI w0 blk off (pre ++ R.take u ++ Q ++ x :: (P ++ post)).toArray ((wr.setCell ⟨blk, off + (a + u + q), none⟩ (eI y)).setCell ⟨blk, off + jN, none⟩ (eI x)).drew) := by
            obtain ⟨Q, P, hPQ, hP, hS'⟩ := hS.out
            obtain ⟨Q', y, rfl⟩ : ∃ Q' y, Q = Q' ++ [y] := by
              rcases List.eq_nil_or_concat Q with e | ⟨Q', y, e⟩
              · rw [e] at hP; simp at hP; omega
              · exact ⟨Q', y, by rw [e]; simp⟩
            have hq' : Q'.length + 1 = q := by simpa using hP
            have hp : (pre ++ R.take u ++ Q').length = a + u + Q'.length := by simp [← Ha.out]; omega
            have hL : pre ++ R.take u ++ (Q' ++ [y]) ++ x :: (P ++ post) = (pre ++ R.take u ++ Q') ++ y :: x :: (P ++ post) := by simp
            rw [hL] at hS'
            have hlen : ((pre ++ R.take u ++ Q') ++ y :: x :: (P ++ post)).toArray.size = d0.size := by
              rw [← Hlen.out]
              have e : R = R.take u ++ ((Q' ++ [y]) ++ P) := by rw [← hPQ]; simp
              have := congrArg List.length e
              simp at this ⊢
              omega
            have hlt2 : a + u + Q'.length + 1 < ((pre ++ R.take u ++ Q') ++ y :: x :: (P ++ post)).toArray.size := by rw [← hp]; simp; omega
            have g1 : ((pre ++ R.take u ++ Q') ++ y :: x :: (P ++ post)).toArray[a + u + Q'.length]! = y := by rw [← hp]; exact get_at _ _ _
            have g2 : ((pre ++ R.take u ++ Q') ++ y :: x :: (P ++ post)).toArray[a + u + Q'.length + 1]! = x := by
              have := get_at ((pre ++ R.take u ++ Q') ++ [y]) (P ++ post) x
              rw [List.length_append, hp, List.append_assoc] at this
              exact this
            rw [show a + u + q = a + u + Q'.length + 1 by omega]
            have k1 := hS'.c1 Rh.out hlen (a + u + Q'.length) (by omega)
            have k2 := hS'.c1 Rh.out hlen (a + u + Q'.length + 1) hlt2
            rw [g1] at k1
            rw [g2] at k2
            have hsw := hS'.swapped Rh.out (a + u + Q'.length + 1) (a + u + Q'.length) hlt2 (by omega)
            rw [g1, g2] at hsw
            refine ⟨a + u + Q'.length, y, rfl, k2, k1, hS'.f1 Rh.out hlen _ hlt2, hS'.f1 Rh.out hlen _ (by omega), hS'.c2 Rh.out hlen _ _ hlt2 (by omega) _, Q', y :: P, by rw [hPQ]; simp, by omega, ?_⟩
            have e : swp ((pre ++ R.take u ++ Q') ++ y :: x :: (P ++ post)).toArray (a + u + Q'.length + 1) (a + u + Q'.length) = ((pre ++ R.take u ++ Q') ++ x :: y :: (P ++ post)).toArray := by
              rw [← hp]
              exact swp_adj' _ _ _ _
            rw [e] at hsw
            exact hsw
          obtain ⟨jN, y, hjN, k1, k2, f1, f2, ⟨u', k3⟩, hn⟩ := Hnx.out
          have Hn := Lib.hid hn
          obtain ⟨iN, hiN⟩ : ∃ q', q' = a + u + q := ⟨_, rfl⟩
          rw [← hiN] at k1 k3 f1 Hn hat hjN ⊢
          have ea : ((iN : Int)).toNat = iN := by omega
          have pa : (0 : Int) ≤ (iN : Int) := by omega
          have ba : (iN : Int) < (z : Int) := by have := Hb.out; omega
          have ec : ((iN : Int) - 1).toNat = jN := by omega
          have rc : IntKind.i64.wrap ((iN : Int) - 1) = (iN : Int) - 1 := by rw [IntKind.wrap_i64]; omega
          have pc : (0 : Int) ≤ (iN : Int) - 1 := by omega
          have bc : (iN : Int) - 1 < (z : Int) := by omega
          have hcond : (a : Int) + (u : Int) < (iN : Int) := by omega
          have HiN := Lib.hid (And.intro hiN hjN)
          have Hlt := Lib.hid hlt
          clear hn Hnx hS hlt hiN hjN
          go_wp2_with fail
          go_big_region_o
          clear k1 k2 k3 f1 f2
          generalize ((wr.setCell ⟨blk, off + iN, none⟩ (eI y)).setCell ⟨blk, off + jN, none⟩ (eI x)).drew = w3 at Hn ⊢
          go_wp2_with fail
          go_roundw
          case rel => exact ⟨q - 1, by rw [show ((a + u + (q - 1) : Nat) : Int) = (iN : Int) - 1 by have := HiN.out; have := Hlt.out; omega], by omega, Hn.out⟩
          case measure => simp [intOf]; have := HiN.out; omega
        · obtain rfl : q = 0 := by omega
          have Hfin : Hid (SW eI w0 blk off (pre ++ (R.take u ++ x :: R.drop u) ++ post).toArray wr) := by
            obtain ⟨Q, P, hPQ, hP, hS'⟩ := hS.out
            have hQ : Q = [] := List.length_eq_zero_iff.1 hP
            rw [hQ, List.nil_append] at hPQ
            rw [hQ] at hS'
            rw [hPQ]
            exact (show SW _ _ _ _ _ _ from by simpa using hS')
          have hcond : ¬ (a : Int) + (u : Int) < (((a + u + 0 : Nat)) : Int) := by omega
          have HP : Hid ((R.take u ++ x :: R.drop u).Perm (R ++ [x])) := by
            have h1 : (R.take u ++ x :: R.drop u).Perm (x :: (R.take u ++ R.drop u)) := List.perm_middle
            rw [List.take_append_drop] at h1
            exact h1.trans (List.perm_append_singleton _ _).symm
          clear hS hlt
          go_wp2_with fail
          try simp only [Exit.inBlock, Exit.then]
          refine bodyPost_ret (results_none rfl _ _ _) rfl ?_
          exact ⟨rfl, _, HP.out, HM.out, by simpa using Hfin.out⟩
end
end Go.Proofs.Ytffmipmkbbholaa
