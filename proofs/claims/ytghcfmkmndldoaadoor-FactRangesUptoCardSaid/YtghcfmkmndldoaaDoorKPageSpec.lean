/-
  A page's bytes, as plain lists.
-/
import Derived.Test.YtghcfmkmndldoaaDoorKGet
import Derived.Test.YtghcfmkmndldoaaDoorKRead1
import Derived.Test.YtghcfmkmndldoaaDoorKRefRn
namespace Go.Proofs.YtghcfmkmndldoaaDoor
open Go.RowKit

/-- what follows a page's sum -/
def pageBody (n seg row shard : Nat) (x : List UInt8) : List UInt8 :=
  leBytes 8 seg ++ (leBytes 4 row ++ (leBytes 1 shard ++ (leBytes 2 x.length ++ (x ++ List.replicate (n - 19 - x.length) 0))))
def pageBytes (n seg row shard : Nat) (x : List UInt8) : List UInt8 := leBytes 4 (sumOf (pageBody n seg row shard x)) ++ pageBody n seg row shard x
theorem pageBody_length (n seg row shard : Nat) (x : List UInt8) (h : x.length + 19 ≤ n) : (pageBody n seg row shard x).length = n - 4 := by
  simp [pageBody, leBytes_length]; omega
theorem pageBytes_length (n seg row shard : Nat) (x : List UInt8) (h : x.length + 19 ≤ n) : (pageBytes n seg row shard x).length = n := by
  simp only [pageBytes, List.length_append, leBytes_length, pageBody_length n seg row shard x h]; omega
/-- which error a page of such numbers is answered by; 0 for none -/
def pageErr (s row shard : Int) (len : Nat) : Nat :=
  if roomOf s = 0 ∨ row < 0 ∨ 1073741824 < row ∨ shard < 0 ∨ 255 < shard then 1 else if roomOf s < len then 3 else 0

/-- one stretch laid behind another -/
theorem splat_at (p r l : List UInt8) (off : Nat) (h : p.length = off) (_hl : r.length ≤ l.length) : splat (p ++ l) off r = p ++ (r ++ l.drop r.length) := by
  subst h
  simp [splat, List.drop_append]
theorem drop_noughts (k m : Nat) : (List.replicate m (0 : UInt8)).drop k = List.replicate (m - k) 0 := List.drop_replicate
/-- all that is laid into a page ahead of its sum -/
theorem page_list (n seg row shard : Nat) (x : List UInt8) (h : x.length + 19 ≤ n) :
    splat (splat (splat (splat (splat (List.replicate n 0) 4 (leBytes 8 seg)) 12 (leBytes 4 row)) 16 (leBytes 1 shard)) 17 (leBytes 2 x.length)) 19 x = List.replicate 4 0 ++ pageBody n seg row shard x := by
  have h0 : List.replicate n (0 : UInt8) = List.replicate 4 0 ++ List.replicate (n - 4) 0 := by
    rw [List.replicate_append_replicate]; congr 1; omega
  rw [h0, splat_at _ _ _ 4 (by simp) (by simp [leBytes_length]; omega), drop_noughts, leBytes_length, ← List.append_assoc,
    splat_at _ _ _ 12 (by simp [leBytes_length]) (by simp [leBytes_length]; omega), drop_noughts, leBytes_length, ← List.append_assoc,
    splat_at _ _ _ 16 (by simp [leBytes_length]) (by simp [leBytes_length]; omega), drop_noughts, leBytes_length, ← List.append_assoc,
    splat_at _ _ _ 17 (by simp [leBytes_length]) (by simp [leBytes_length]; omega), drop_noughts, leBytes_length, ← List.append_assoc,
    splat_at _ _ _ 19 (by simp [leBytes_length]) (by simp; omega), drop_noughts]
  have e : n - 4 - 8 - 4 - 1 - 2 - x.length = n - 19 - x.length := by omega
  rw [e]
  simp only [pageBody, List.append_assoc]
theorem page_list2 (n seg row shard : Nat) (x : List UInt8) : splat (List.replicate 4 0 ++ pageBody n seg row shard x) 0 (leBytes 4 (sumOf (pageBody n seg row shard x))) = pageBytes n seg row shard x := by
  simp [splat, leBytes_length, pageBytes]
end Go.Proofs.YtghcfmkmndldoaaDoor

/-
  A record's bytes, as plain lists.
-/
namespace Go.Proofs.YtghcfmkmndldoaaDoor
open Go.RowKit

def recBody (seq : Nat) (x : List UInt8) : List UInt8 := leBytes 8 seq ++ x
def recBytes (seq : Nat) (x : List UInt8) : List UInt8 := numBytes x.length ++ (leBytes 4 (sumOf (recBody seq x)) ++ recBody seq x)
theorem recBody_length (seq : Nat) (x : List UInt8) : (recBody seq x).length = 8 + x.length := by simp [recBody, leBytes_length]
theorem recBytes_length (seq : Nat) (x : List UInt8) : (recBytes seq x).length = (numBytes x.length).length + 12 + x.length := by
  simp only [recBytes, List.length_append, recBody_length, leBytes_length]; omega
theorem rec_list (n k seq : Nat) (x nb : List UInt8) (hk : nb.length = k) (hn : n = k + 12 + x.length) :
    splat (splat (splat (List.replicate n 0) 0 nb) (k + 4) (leBytes 8 seq)) (k + 12) x = nb ++ (List.replicate 4 0 ++ recBody seq x) := by
  subst hk hn
  have h0 : splat (List.replicate (nb.length + 12 + x.length) (0 : UInt8)) 0 nb = (nb ++ List.replicate 4 0) ++ List.replicate (8 + x.length) 0 := by
    simp only [splat, List.take_zero, List.nil_append, Nat.zero_add, drop_noughts, List.append_assoc, List.replicate_append_replicate]
    congr 2
    omega
  rw [h0, splat_at _ _ _ (nb.length + 4) (by simp) (by simp [leBytes_length]), drop_noughts, leBytes_length, ← List.append_assoc,
    splat_at _ _ _ (nb.length + 12) (by simp [leBytes_length]) (by simp), drop_noughts]
  simp [recBody]
theorem rec_list2 (k seq : Nat) (x nb : List UInt8) (hk : nb.length = k) : splat (nb ++ (List.replicate 4 0 ++ recBody seq x)) k (leBytes 4 (sumOf (recBody seq x))) = nb ++ (leBytes 4 (sumOf (recBody seq x)) ++ recBody seq x) := by
  rw [splat_at _ _ _ k hk (by simp [leBytes_length])]
  simp [leBytes_length]
end Go.Proofs.YtghcfmkmndldoaaDoor

/-
  What a reader of numbers tells, more of it; a record read, as plain lists.
-/
namespace Go.Proofs.YtghcfmkmndldoaaDoor

theorem rnGo_facts (f : Nat) : ∀ (i n : Nat) (l : List UInt8), n < 128 ^ i → i + f ≤ 10 →
    ((rnGo f i n l).2.2 = 0 → i < (rnGo f i n l).2.1 ∧ (rnGo f i n l).2.1 ≤ i + f ∧ (rnGo f i n l).2.1 ≤ i + l.length ∧ (rnGo f i n l).1 < 18446744073709551616) ∧
    ((rnGo f i n l).2.2 ≠ 0 → (rnGo f i n l).1 = 0 ∧ (rnGo f i n l).2.1 = 0) := by
  induction f with
  | zero => intro i n l _ _; simp [rnGo]
  | succ f ih =>
    intro i n l hn hi
    cases l with
    | nil => simp [rnGo]
    | cons x l =>
      have hx := x.toNat_lt
      by_cases h9 : i = 9 ∧ 1 < x.toNat
      · simp [rnGo, h9]
      · have hr := rn_room n x.toNat i hn (by omega) (by omega) h9
        have e64 : (2 : Nat) ^ 64 = 18446744073709551616 := by decide
        by_cases hx1 : x.toNat < 128
        · by_cases h0 : x.toNat = 0 ∧ 0 < i
          · rw [rnGo_zero f i n x l h0.1 h0.2]
            simp
          · rw [rnGo_end f i n x l h9 hx1 h0]
            refine ⟨fun _ => ⟨by simp, by simp <;> omega, by simp <;> omega, by simp only; omega⟩, fun h => absurd rfl h⟩
        · rw [rnGo_more f i n x l h9 hx1]
          have := ih (i + 1) (n + x.toNat % 128 * 128 ^ i) l hr.1 (by omega)
          refine ⟨fun h => ?_, this.2⟩
          have h2 := this.1 h
          rw [List.length_cons]
          omega
theorem readNum_ok {l : List UInt8} (h : (readNum l).2.2 = 0) : 0 < (readNum l).2.1 ∧ (readNum l).2.1 ≤ 10 ∧ (readNum l).2.1 ≤ l.length ∧ (readNum l).1 < two64 := by
  have := (rnGo_facts 10 0 0 l (by decide) (by omega)).1 h
  rw [two64_eq]
  show 0 < (rnGo 10 0 0 l).2.1 ∧ (rnGo 10 0 0 l).2.1 ≤ 10 ∧ (rnGo 10 0 0 l).2.1 ≤ l.length ∧ (rnGo 10 0 0 l).1 < 18446744073709551616
  omega
theorem readNum_err {l : List UInt8} (h : (readNum l).2.2 ≠ 0) : (readNum l).1 = 0 ∧ (readNum l).2.1 = 0 := (rnGo_facts 10 0 0 l (by decide) (by omega)).2 h

/-- whatever is read is written just so -/
theorem rnGo_back (f : Nat) : ∀ (i n : Nat) (l : List UInt8), n < 128 ^ i → i + f ≤ 10 → (rnGo f i n l).2.2 = 0 →
    ∃ q, (rnGo f i n l).1 = n + q * 128 ^ i ∧ l.take ((rnGo f i n l).2.1 - i) = numBytes q ∧ (0 < i → 0 < q) := by
  induction f with
  | zero => intro i n l _ _ h; simp [rnGo] at h
  | succ f ih =>
    intro i n l hn hi h
    cases l with
    | nil => simp [rnGo] at h
    | cons x l =>
      have hx := x.toNat_lt
      by_cases h9 : i = 9 ∧ 1 < x.toNat
      · simp [rnGo, h9] at h
      · have hr := rn_room n x.toNat i hn (by omega) (by omega) h9
        by_cases hx1 : x.toNat < 128
        · by_cases h0 : x.toNat = 0 ∧ 0 < i
          · rw [rnGo_zero f i n x l h0.1 h0.2] at h
            simp at h
          · rw [rnGo_end f i n x l h9 hx1 h0]
            refine ⟨x.toNat, by simp only [Nat.mod_eq_of_lt hx1], ?_, fun hi => by omega⟩
            rw [numBytes_lt hx1, show i + 1 - i = 1 from by omega]
            simp
        · rw [rnGo_more f i n x l h9 hx1] at h ⊢
          obtain ⟨q, h1, h2, h3⟩ := ih (i + 1) (n + x.toNat % 128 * 128 ^ i) l hr.1 (by omega) h
          have hf := (rnGo_facts f (i + 1) (n + x.toNat % 128 * 128 ^ i) l hr.1 (by omega)).1 h
          have hq := h3 (by omega)
          refine ⟨x.toNat % 128 + 128 * q, ?_, ?_, fun _ => by omega⟩
          · rw [h1, Nat.pow_succ, Nat.add_mul, Nat.mul_assoc 128 q, Nat.mul_comm 128 (q * 128 ^ i), ← Nat.mul_assoc q]
            omega
          · have e : (rnGo f (i + 1) (n + x.toNat % 128 * 128 ^ i) l).2.1 - i = ((rnGo f (i + 1) (n + x.toNat % 128 * 128 ^ i) l).2.1 - (i + 1)) + 1 := by omega
            rw [e, List.take_succ_cons, h2, numBytes_ge (show ¬ x.toNat % 128 + 128 * q < 128 by omega)]
            have e2 : (x.toNat % 128 + 128 * q) / 128 = q := by omega
            have e3 : (x.toNat % 128 + 128 * q) % 128 + 128 = x.toNat := by omega
            rw [e2, e3, UInt8.ofNat_toNat]
theorem readNum_back {l : List UInt8} (h : (readNum l).2.2 = 0) : l.take (readNum l).2.1 = numBytes (readNum l).1 := by
  obtain ⟨q, h1, h2, _⟩ := rnGo_back 10 0 0 l (by decide) (by omega) h
  have e : (readNum l).1 = q := by show (rnGo 10 0 0 l).1 = q; rw [h1]; simp
  rw [e, ← h2]
  rfl
/-- what is written is read -/
theorem rnGo_forth (f : Nat) : ∀ (i n q : Nat) (r : List UInt8), n < 128 ^ i → i + f = 10 → n + q * 128 ^ i < 18446744073709551616 → (0 < i → 0 < q) → (numBytes q).length ≤ f →
    rnGo f i n (numBytes q ++ r) = (n + q * 128 ^ i, i + (numBytes q).length, 0) := by
  induction f with
  | zero => intro i n q r _ _ _ _ h; have := numBytes_pos q; omega
  | succ f ih =>
    intro i n q r hn hi hlt hq hl
    have top : ¬ (i = 9 ∧ 1 < q) := fun ⟨h1, h2⟩ => by
      subst h1
      have h3 : (128 : Nat) ^ 9 = 9223372036854775808 := by decide
      have : 2 * 128 ^ 9 ≤ q * 128 ^ 9 := Nat.mul_le_mul_right _ h2
      omega
    by_cases h : q < 128
    · rw [numBytes_lt h]
      have hb : (UInt8.ofNat q).toNat = q := by rw [UInt8.toNat_ofNat']; omega
      show rnGo (f + 1) i n (UInt8.ofNat q :: r) = _
      rw [rnGo_end f i n _ r (by rw [hb]; exact top) (by rw [hb]; exact h) (by rw [hb]; omega), hb, Nat.mod_eq_of_lt h]
      rfl
    · rw [numBytes_ge h] at hl ⊢
      have hb : (UInt8.ofNat (q % 128 + 128)).toNat = q % 128 + 128 := by rw [UInt8.toNat_ofNat']; omega
      show rnGo (f + 1) i n (UInt8.ofNat (q % 128 + 128) :: (numBytes (q / 128) ++ r)) = _
      rw [List.length_cons] at hl
      have hp := numBytes_pos (q / 128)
      have hi9 : i < 9 := by omega
      rw [rnGo_more f i n _ _ (by omega) (by rw [hb]; omega), hb, show (q % 128 + 128) % 128 = q % 128 from by omega]
      have hr := rn_room n (q % 128) i hn (by omega) (by omega) (by omega)
      rw [show q % 128 % 128 = q % 128 from by omega] at hr
      have e : n + q % 128 * 128 ^ i + q / 128 * 128 ^ (i + 1) = n + q * 128 ^ i := by
        have : q = q % 128 + 128 * (q / 128) := by omega
        conv => rhs; rw [this, Nat.add_mul, Nat.mul_assoc, Nat.mul_comm 128 (q / 128 * 128 ^ i), Nat.mul_assoc, ← Nat.pow_succ, Nat.succ_eq_add_one]
        omega
      rw [ih (i + 1) _ (q / 128) r hr.1 (by omega) (by rw [e]; exact hlt) (fun _ => by omega) (by omega), e, List.length_cons]
      congr 2
      omega
theorem readNum_forth (v : Nat) (r : List UInt8) (h : v < two64) : readNum (numBytes v ++ r) = (v, (numBytes v).length, 0) := by
  have := rnGo_forth 10 0 0 v r (by decide) rfl (by rw [two64_eq] at h; omega) (by omega) (numBytes_ten h)
  unfold readNum
  rw [this]
  simp

/-- A RECORD READ -/
def readRec (l : List UInt8) : Nat × List UInt8 × Nat × Nat :=
  if (readNum l).2.2 ≠ 0 then (0, [], 0, (readNum l).2.2)
  else if 16777216 < (readNum l).1 then (0, [], 0, 3)
  else if l.length < (readNum l).2.1 + 12 + (readNum l).1 then (0, [], 0, 21)
  else if leNat (((l.drop (readNum l).2.1).take (12 + (readNum l).1)).take 4) ≠ sumOf (((l.drop (readNum l).2.1).take (12 + (readNum l).1)).drop 4) then (0, [], 0, 23)
  else (leNat ((((l.drop (readNum l).2.1).take (12 + (readNum l).1)).drop 4).take 8), ((l.drop (readNum l).2.1).take (12 + (readNum l).1)).drop 12, (readNum l).2.1 + 12 + (readNum l).1, 0)
end Go.Proofs.YtghcfmkmndldoaaDoor

/-
  A byte string read: the program's reader and the second saying's.
-/
namespace Go.Proofs.YtghcfmkmndldoaaDoor
open Go.RowKit

/-- bytes read: what stands there, how much was taken, error -/
def readBy (l : List UInt8) (most : Int) : List UInt8 × Nat × Nat :=
  if (readNum l).2.2 ≠ 0 then ([], 0, (readNum l).2.2)
  else if max most 0 < ((readNum l).1 : Int) then ([], 0, 3)
  else if l.length < (readNum l).2.1 + (readNum l).1 then ([], 0, 21)
  else ((l.drop (readNum l).2.1).take (readNum l).1, (readNum l).2.1 + (readNum l).1, 0)

/-- v is a slice that reads as l -/
def SB (w : World) (v : Value) (l : List UInt8) : Prop := ∃ A c, v = .slice A l.length c ∧ RB w w.heap.size A l

set_option maxRecDepth 200000 in
set_option maxHeartbeats 4000000 in
theorem readBy_any (A : Option Addr) (c : Nat) (l : List UInt8) (most : Int) (w : World) (hr : RB w w.heap.size A l) (hl : l.length ≤ 1099511627776) (hc : l.length ≤ c) (hA : A = none → c = 0) (hm : most ≤ 9223372036854775807) :
    Calls Tryd.prog 105 #[.slice A l.length c, .int .i64 most] w fun e w' => ∃ v, e = .returned (.tuple #[v, .int .i64 ((readBy l most).2.1 : Nat), .int .i64 ((readBy l most).2.2 : Nat)]) ∧
      Own w' w.heap.size v (readBy l most).1 ∧ Below w.heap.size w w' := by
  have hrn := rn_any A c l w _ hr hl hc hA
  have Hr := Lib.hid hr
  have Hspec : Hid (readBy l most = _) := (by rw [readBy] : readBy l most = _)
  have Hok := Lib.hid (@readNum_ok l)
  generalize readBy l most = out at Hspec ⊢
  obtain ⟨mx, hmx⟩ : ∃ mx : Nat, max most 0 = (mx : Int) := ⟨(max most 0).toNat, by omega⟩
  have hmxb : mx ≤ 9223372036854775807 := by omega
  rw [hmx] at Hspec
  generalize hrd : readNum l = rd at hrn Hspec Hok
  obtain ⟨v, n, e⟩ := rd
  have hrn : Calls Tryd.prog 92 #[.slice A l.length c] w fun r w' => r = .returned (.tuple #[.int .u64 (v : Int), .int .i64 (n : Int), .int .i64 (e : Int)]) ∧ w = w' := hrn
  have Hrn := Lib.hid hrn
  have Hl := Lib.hid hl
  clear hr hrn hA hrd hl hm
  by_cases he : e = 0
  · obtain ⟨hn1, hn2, hn3, hv64⟩ := Hok.out he
    dsimp only at hn1 hn2 hn3 hv64
    have hb0 : ((e : Int) != 0) = false := by simp [he]
    have hwx : IntKind.u64.wrap (mx : Int) = (mx : Int) := by rw [IntKind.wrap_u64]; omega
    have hmost : (most < 0 ∧ mx = 0) ∨ most = (mx : Int) := by omega
    have Hwl : Hid (IntKind.u64.wrap ((l.length : Int) - (n : Int)) = (l.length : Int) - (n : Int)) := by show _ = _; rw [IntKind.wrap_u64]; have := Hl.out; omega
    clear hv64 hmxb hmx
    obtain ⟨b, o, rfl, hblk⟩ := Hr.out.flat (show 0 < l.length by omega)
    clear hblk
    by_cases hv : mx < v
    · have hs : out = ([], 0, 3) := by rw [Hspec.out]; simp [he, hv]
      subst hs
      clear Hspec he Hok
      rcases hmost with ⟨hneg, rfl⟩ | rfl
      all_goals
        go_enter Tryd.func105, Tryd.ntmps105
        go_wp2_with fail
        refine Hrn.out.mono ?_
        rintro e' w' ⟨rfl, rfl⟩
        go_wp2_with fail
        go_ret3
        exact ⟨.slice none 0 0, rfl, Own.nil _ _, Below.refl _ _⟩
    · by_cases hsh : l.length < n + v
      · have hs : out = ([], 0, 21) := by rw [Hspec.out]; simp [he, hv, hsh]
        subst hs
        have hsh' : (l.length : Int) - (n : Int) < (v : Int) := by omega
        have hwl : IntKind.u64.wrap (wrap64 ((l.length : Int) - (n : Int))) = (l.length : Int) - (n : Int) := by
          rw [show wrap64 ((l.length : Int) - (n : Int)) = (l.length : Int) - (n : Int) from by unfold wrap64; have := Hl.out; omega]
          exact Hwl.out
        have hlb : (l.length : Int) ≤ 1099511627776 := by have := Hl.out; omega
        have hnl : (n : Int) ≤ (l.length : Int) := by omega
        clear Hspec he Hok
        rcases hmost with ⟨hneg, rfl⟩ | rfl
        all_goals
          go_enter Tryd.func105, Tryd.ntmps105
          go_wp2_with fail
          refine Hrn.out.mono ?_
          rintro e' w' ⟨rfl, rfl⟩
          go_wp2_with fail
          go_ret3
          exact ⟨.slice none 0 0, rfl, Own.nil _ _, Below.refl _ _⟩
      · have hs : out = ((l.drop n).take v, n + v, 0) := by rw [Hspec.out]; simp only [he, hv, hsh, ne_eq, not_true, if_false, Int.ofNat_lt]
        subst hs
        have hsh' : (v : Int) ≤ (l.length : Int) - (n : Int) := by omega
        have hwl : IntKind.u64.wrap (wrap64 ((l.length : Int) - (n : Int))) = (l.length : Int) - (n : Int) := by
          rw [show wrap64 ((l.length : Int) - (n : Int)) = (l.length : Int) - (n : Int) from by unfold wrap64; have := Hl.out; omega]
          exact Hwl.out
        have hvb : (v : Int) ≤ 1099511627776 := by have := Hl.out; omega
        have hnv : n + v - n = v := by omega
        have hnvc : n + v ≤ c := by omega
        have hnvc' : (n : Int) + (v : Int) ≤ (c : Int) := by omega
        clear Hspec he Hok
        rcases hmost with ⟨hneg, rfl⟩ | rfl
        all_goals
          go_enter Tryd.func105, Tryd.ntmps105
          go_wp2_with fail
          refine Hrn.out.mono ?_
          rintro e' w' ⟨rfl, rfl⟩
          go_wp2_with fail
          · have h12 : c = n := by assumption
            have hv0 : v = 0 := by omega
            subst hv0
            have hcl := clone_any (some ⟨b, o, none⟩) 0 [] w w.heap.size (RB.nil _ _ _) (Nat.le_refl _) (by simp)
            refine hcl.mono ?_
            clear hcl
            rintro e' W9 ⟨v9, rfl, hown9, hbel9⟩
            have Hown9 := Lib.hid hown9
            have Hbel9 := Lib.hid hbel9
            clear hown9 hbel9
            go_wp2_with fail
            go_ret3
            exact ⟨v9, by simp, Hown9.out, Hbel9.out⟩
          · have hcl := clone_any (some ⟨b, o + n, none⟩) (c - n) ((l.drop n).take v) w w.heap.size ((Hr.out.cutFlat n).take v) (Nat.le_refl _) (by rw [List.length_take]; have := Hl.out; omega)
            rw [show ((l.drop n).take v).length = v by rw [List.length_take, List.length_drop]; omega] at hcl
            refine hcl.mono ?_
            clear hcl
            rintro e' W9 ⟨v9, rfl, hown9, hbel9⟩
            have Hown9 := Lib.hid hown9
            have Hbel9 := Lib.hid hbel9
            clear hown9 hbel9
            go_wp2_with fail
            go_ret3
            exact ⟨v9, by simp, Hown9.out, Hbel9.out⟩
  · have hb0 : ((e : Int) != 0) = true := by simp [he]
    have hs : out = ([], 0, e) := by rw [Hspec.out]; simp [he]
    subst hs
    clear Hspec he Hok
    go_enter Tryd.func105, Tryd.ntmps105
    go_wp2_with fail
    refine Hrn.out.mono ?_
    rintro e' w' ⟨rfl, rfl⟩
    go_wp2_with fail
    go_ret3
    exact ⟨.slice none 0 0, rfl, Own.nil _ _, Below.refl _ _⟩
set_option maxRecDepth 200000 in
set_option maxHeartbeats 4000000 in
theorem refReadBy_any (A : Option Addr) (c : Nat) (l : List UInt8) (most : Int) (w : World) (hr : RB w w.heap.size A l) (hl : l.length ≤ 1099511627776) (hc : l.length ≤ c) (hA : A = none → c = 0) (hm : most ≤ 9223372036854775807) :
    Calls Tryd.prog 107 #[.slice A l.length c, .int .i64 most] w fun e w' => ∃ v, e = .returned (.tuple #[v, .int .i64 ((readBy l most).2.1 : Nat), .int .i64 ((readBy l most).2.2 : Nat)]) ∧
      SB w v (readBy l most).1 ∧ w = w' := by
  have hrn := refRn_any A c l w _ hr hl
  have Hr := Lib.hid hr
  have Hspec : Hid (readBy l most = _) := (by rw [readBy] : readBy l most = _)
  have Hok := Lib.hid (@readNum_ok l)
  generalize readBy l most = out at Hspec ⊢
  obtain ⟨mx, hmx⟩ : ∃ mx : Nat, max most 0 = (mx : Int) := ⟨(max most 0).toNat, by omega⟩
  have hmxb : mx ≤ 9223372036854775807 := by omega
  rw [hmx] at Hspec
  generalize hrd : readNum l = rd at hrn Hspec Hok
  obtain ⟨v, n, e⟩ := rd
  have hrn : Calls Tryd.prog 46 #[.slice A l.length c] w fun r w' => r = .returned (.tuple #[.int .u64 (v : Int), .int .i64 (n : Int), .int .i64 (e : Int)]) ∧ w = w' := hrn
  have Hrn := Lib.hid hrn
  have Hl := Lib.hid hl
  clear hr hrn hA hrd hl hm
  by_cases he : e = 0
  · obtain ⟨hn1, hn2, hn3, hv64⟩ := Hok.out he
    dsimp only at hn1 hn2 hn3 hv64
    have hb0 : ((e : Int) != 0) = false := by simp [he]
    have hwx : IntKind.u64.wrap (mx : Int) = (mx : Int) := by rw [IntKind.wrap_u64]; omega
    have hmost : (most < 0 ∧ mx = 0) ∨ most = (mx : Int) := by omega
    have Hwl : Hid (IntKind.u64.wrap ((l.length : Int) - (n : Int)) = (l.length : Int) - (n : Int)) := by show _ = _; rw [IntKind.wrap_u64]; have := Hl.out; omega
    clear hv64 hmxb hmx
    obtain ⟨b, o, rfl, hblk⟩ := Hr.out.flat (show 0 < l.length by omega)
    clear hblk
    by_cases hv : mx < v
    · have hs : out = ([], 0, 3) := by rw [Hspec.out]; simp [he, hv]
      subst hs
      clear Hspec he Hok
      rcases hmost with ⟨hneg, rfl⟩ | rfl
      all_goals
        go_enter Tryd.func107, Tryd.ntmps107
        go_wp2_with fail
        refine Hrn.out.mono ?_
        rintro e' w' ⟨rfl, rfl⟩
        go_wp2_with fail
        go_ret3
        exact ⟨.slice none 0 0, rfl, ⟨none, 0, rfl, RB.nil _ _ _⟩, rfl⟩
    · by_cases hsh : l.length < n + v
      · have hs : out = ([], 0, 21) := by rw [Hspec.out]; simp [he, hv, hsh]
        subst hs
        have hsh' : (l.length : Int) - (n : Int) < (v : Int) := by omega
        have hwl : IntKind.u64.wrap (wrap64 ((l.length : Int) - (n : Int))) = (l.length : Int) - (n : Int) := by
          rw [show wrap64 ((l.length : Int) - (n : Int)) = (l.length : Int) - (n : Int) from by unfold wrap64; have := Hl.out; omega]
          exact Hwl.out
        have hlb : (l.length : Int) ≤ 1099511627776 := by have := Hl.out; omega
        have hnl : (n : Int) ≤ (l.length : Int) := by omega
        clear Hspec he Hok
        rcases hmost with ⟨hneg, rfl⟩ | rfl
        all_goals
          go_enter Tryd.func107, Tryd.ntmps107
          go_wp2_with fail
          refine Hrn.out.mono ?_
          rintro e' w' ⟨rfl, rfl⟩
          go_wp2_with fail
          go_ret3
          exact ⟨.slice none 0 0, rfl, ⟨none, 0, rfl, RB.nil _ _ _⟩, rfl⟩
      · have hs : out = ((l.drop n).take v, n + v, 0) := by rw [Hspec.out]; simp only [he, hv, hsh, ne_eq, not_true, if_false, Int.ofNat_lt]
        subst hs
        have hsh' : (v : Int) ≤ (l.length : Int) - (n : Int) := by omega
        have hwl : IntKind.u64.wrap (wrap64 ((l.length : Int) - (n : Int))) = (l.length : Int) - (n : Int) := by
          rw [show wrap64 ((l.length : Int) - (n : Int)) = (l.length : Int) - (n : Int) from by unfold wrap64; have := Hl.out; omega]
          exact Hwl.out
        have hvb : (v : Int) ≤ 1099511627776 := by have := Hl.out; omega
        have hnv : n + v - n = v := by omega
        have hnvc : n + v ≤ c := by omega
        have hnvc' : (n : Int) + (v : Int) ≤ (c : Int) := by omega
        clear Hspec he Hok
        rcases hmost with ⟨hneg, rfl⟩ | rfl
        all_goals
          go_enter Tryd.func107, Tryd.ntmps107
          go_wp2_with fail
          refine Hrn.out.mono ?_
          rintro e' w' ⟨rfl, rfl⟩
          go_wp2_with fail
          · have h12 : c = n := by assumption
            have hv0 : v = 0 := by omega
            subst hv0
            go_ret3
            exact ⟨.slice (some ⟨b, o, none⟩) 0 0, by simp, ⟨some ⟨b, o, none⟩, 0, by simp, RB.nil _ _ _⟩, rfl⟩
          · go_ret3
            exact ⟨.slice (some ⟨b, o + n, none⟩) v (c - n), by simp, ⟨some ⟨b, o + n, none⟩, c - n, by simp; omega, (Hr.out.cutFlat n).take v⟩, rfl⟩
  · have hb0 : ((e : Int) != 0) = true := by simp [he]
    have hs : out = ([], 0, e) := by rw [Hspec.out]; simp [he]
    subst hs
    clear Hspec he Hok
    go_enter Tryd.func107, Tryd.ntmps107
    go_wp2_with fail
    refine Hrn.out.mono ?_
    rintro e' w' ⟨rfl, rfl⟩
    go_wp2_with fail
    go_ret3
    exact ⟨.slice none 0 0, rfl, ⟨none, 0, rfl, RB.nil _ _ _⟩, rfl⟩
end Go.Proofs.YtghcfmkmndldoaaDoor

/-
  The program's writer of byte strings, of any parts.
-/
namespace Go.Proofs.YtghcfmkmndldoaaDoor
open Go.RowKit

theorem take_flat_le (ls : List (List UInt8)) (k : Nat) : (ls.take k).flatten.length ≤ ls.flatten.length := by
  have h : ls.flatten = (ls.take k).flatten ++ (ls.drop k).flatten := by rw [← List.flatten_append, List.take_append_drop]
  rw [h, List.length_append]
  omega

set_option maxRecDepth 200000 in
set_option maxHeartbeats 4000000 in
theorem bytes_any (A : Option Addr) (c : Nat) (l : List UInt8) (L : Option Addr) (cl : Nat) (ls : List (List UInt8)) (w : World) (hr : RB w w.heap.size A l) (hrr : RBB w w.heap.size L ls) (hl : l.length ≤ 65600) (hll : ls.flatten.length ≤ 65536) (hls : ls.length ≤ 1099511627776) :
    Calls Tryd.prog 101 #[.slice A l.length c, .slice L ls.length cl] w fun e w' => ∃ b', e = .returned b' ∧ Own w' w.heap.size b' (l ++ (numBytes ls.flatten.length ++ ls.flatten)) ∧ Below w.heap.size w w' := by
  have Hall := Lib.hid (hrr.all_le hll)
  have Htl := Lib.hid (fun k => Nat.le_trans (take_flat_le ls k) hll)
  have Hr := Lib.hid hr
  have Hrr := Lib.hid hrr
  have hls' : (ls.length : Int) ≤ 1099511627776 := by omega
  have hlen' : (l.length : Int) ≤ 65600 := by omega
  have Hll := Lib.hid hll
  clear hr hrr hll
  go_enter Tryd.func101, Tryd.ntmps101
  go_wp2_with fail
  go_loop [5, 13] (fun d i => ∃ k : Nat, k ≤ ls.length ∧ i = .int .i64 (k : Int) ∧ ∃ m : Nat, d = .int .i64 (m : Int) ∧ m ≤ 65536 ∧ Hid (m = (ls.take k).flatten.length)) (fun _ i => (ls.length - intOf i).toNat)
  case atStart => exact ⟨0, by omega, rfl, 0, rfl, by omega, rfl⟩
  case round =>
    obtain ⟨k, hk, rfl, m, rfl, hm, hmeq⟩ := hrel
    by_cases hkl : k < ls.length
    · obtain ⟨ad, A', c', rfl, hb, hc, hrb, hcap⟩ := Hrr.out k _ (List.getElem?_eq_getElem hkl)
      have h3 : ls[k].length ≤ 65536 := Hall.out _ (List.getElem_mem hkl)
      have h3' : (ls[k].length : Int) ≤ 65536 := by omega
      have Hnext : Hid (m + ls[k].length = (ls.take (k + 1)).flatten.length) := by show _ = _; rw [flatten_take ls k hkl, List.length_append, ← hmeq.out]
      have Hle : Hid (m + ls[k].length ≤ 65536) := by show _ ≤ _; rw [Hnext.out]; exact Htl.out (k + 1)
      clear hrb
      go_wp2_with fail
      exact ⟨⟨k + 1, by omega, by go_num, m + ls[k].length, by go_num, Hle.out, Hnext.out⟩, by simp [intOf]; omega⟩
    · obtain rfl : k = ls.length := by omega
      have Hm : Hid (m = ls.flatten.length) := by have := hmeq.out; rw [List.take_length] at this; exact this
      obtain ⟨cs, hown, hmk⟩ := make_cap (l.length + 10 + m) (by omega)
      have hmk' : ∀ u : World, (Instr.makeSlice 25 (.int .i64 0) (.int .i64 ((l.length : Int) + 10 + (m : Int)))).run Tryd.prog u = .ok (.slice (some ⟨u.heap.size, 0, none⟩) 0 (l.length + 10 + m)) (u.alloc (.cells cs 5)) := hmk
      have Hown := Lib.hid hown
      have Hlen : Hid (([] : List UInt8).length + l.length ≤ 140737488355327) := by show _ ≤ _; simp; omega
      have hwm : IntKind.u64.wrap (m : Int) = (m : Int) := by rw [IntKind.wrap_u64]; omega
      have hm' : (m : Int) ≤ 65536 := by omega
      clear hown hmk hmeq
      go_wp2_with (at_builtin; refine app_bytes rfl (.tmp 28) (.tmp 29) rfl w.heap.size _ [] rfl (Hown.out w _ (Nat.le_refl _)) _ A l.length c l rfl rfl (Hr.out.alloc (Nat.le_refl _) _) Hlen.out (by simp) ?_; intro v1 w1 hown1 hbel1 _)
      clear hmk'
      have Hown1 : Hid (Own w1 w.heap.size v1 l) := hown1
      have Hbel1 := Lib.hid (((Below.refl w.heap.size w).alloc (Nat.le_refl _) (.cells cs 5)).trans hbel1)
      clear hown1 hbel1
      refine (add_any w.heap.size v1 _ m _ (by rw [two64_eq]; omega) Hown1.out Hbel1.out.size (by omega)).mono ?_
      rintro e w2 ⟨b2, rfl, hown2, hbel2⟩
      have Hown2 := Lib.hid hown2
      have Hbel2 := Lib.hid (Hbel1.out.trans hbel2)
      clear hown2 hbel2
      go_wp2_with fail
      go_loopw [8, 36] (fun b i wr => ∃ k : Nat, k ≤ ls.length ∧ i = .int .i64 (k : Int) ∧ Hid (Own wr w.heap.size b (l ++ (numBytes m ++ (ls.take k).flatten))) ∧ Hid (Below w.heap.size w wr)) (fun _ i _ => (ls.length - intOf i).toNat)
      case atStart => exact ⟨0, by omega, rfl, by show Own _ _ _ _; simp only [List.take_zero, List.flatten_nil, List.append_nil]; exact Hown2.out, Hbel2.out⟩
      case round =>
        obtain ⟨k, hk2, rfl, hown, hbel⟩ := hrel
        by_cases hkl2 : k < ls.length
        · obtain ⟨ad, A', c', rfl, hb, hc, hrb, hcap⟩ := (Hrr.out.below hbel.out) k _ (List.getElem?_eq_getElem hkl2)
          have h3 : ls[k].length ≤ 65536 := Hall.out _ (List.getElem_mem hkl2)
          have Hrb := Lib.hid hrb
          have Hlen2 : Hid ((l ++ (numBytes m ++ (ls.take k).flatten)).length + ls[k].length ≤ 140737488355327) := by
            show _ ≤ _
            have h4 := numBytes_ten (v := m) (by rw [two64_eq]; omega)
            have h5 := Htl.out k
            rw [List.length_append, List.length_append]
            omega
          have Hsz : Hid (w.heap.size ≤ wr.heap.size) := hbel.out.size
          have Hft := Lib.hid (flatten_take ls k hkl2)
          clear hrb
          go_wp2_with (at_builtin; refine app_bytes rfl (.tmp 40) (.tmp 41) rfl w.heap.size _ _ rfl hown.out _ A' ls[k].length c' ls[k] rfl rfl Hrb.out Hlen2.out Hsz.out ?_; intro v3 w3 hown3 hbel3 _)
          exact ⟨⟨k + 1, by omega, by go_num, by
            show Own _ _ _ _
            rw [Hft.out]
            simp only [List.append_assoc] at hown3 ⊢
            exact hown3, hbel.out.trans hbel3⟩, by simp [intOf]; omega⟩
        · obtain rfl : k = ls.length := by omega
          go_wp2_with fail
          go_ret
          refine ⟨_, rfl, ?_, hbel.out⟩
          have h := hown.out
          rw [List.take_length, Hm.out] at h
          exact h
end Go.Proofs.YtghcfmkmndldoaaDoor
