/-
  FrameBits, reckoned: a page, a record with one byte of another value is refused.
-/
import Derived.Test.YtlgeknibdgamgaaDoorReadPg
import Derived.Test.YtlgeknibdgamgaaDoorPageBad
namespace Go.Proofs.YtlgeknibdgamgaaDoor

theorem leNat_inj {a b : List UInt8} (h : a.length = b.length) (e : leNat a = leNat b) : a = b := by
  rw [← leBytes_leNat a, ← leBytes_leNat b, h, e]
theorem leNat_sum (b : List UInt8) : leNat (leBytes 4 (sumOf b)) = sumOf b := by
  rw [leNat_leBytes]
  exact Nat.mod_eq_of_lt (sumOf_lt b)

/-- a stretch behind its sum, one byte of it another: the sum no longer fits -/
theorem sum_poked (b : List UInt8) (i : Nat) (y : UInt8) (hi : i < (leBytes 4 (sumOf b) ++ b).length) (hy : (leBytes 4 (sumOf b) ++ b)[i] ≠ y) :
    leNat (((leBytes 4 (sumOf b) ++ b).set i y).take 4) ≠ sumOf (((leBytes 4 (sumOf b) ++ b).set i y).drop 4) := by
  have h4 : (leBytes 4 (sumOf b)).length = 4 := leBytes_length _ _
  rw [List.set_append]
  split
  · rename_i h
    have h5 : ((leBytes 4 (sumOf b)).set i y).length = 4 := by rw [List.length_set, h4]
    rw [List.take_left' h5, List.drop_left' h5]
    intro e
    have e2 := leNat_inj (a := (leBytes 4 (sumOf b)).set i y) (b := leBytes 4 (sumOf b)) (by rw [h5, h4]) (e.trans (leNat_sum b).symm)
    apply hy
    rw [List.getElem_append_left h]
    have e3 := congrArg (fun l => l[i]?) e2
    rw [List.getElem?_set_self h, List.getElem?_eq_getElem h] at e3
    exact (Option.some.inj e3).symm
  · rename_i h
    rw [List.take_left' h4, List.drop_left' h4, leNat_sum b, h4]
    rw [h4] at h
    rw [List.length_append, h4] at hi
    have hj : i - 4 < b.length := by omega
    rw [List.getElem_append_right (by omega)] at hy
    simp only [h4] at hy
    have s1 : b = b.take (i - 4) ++ b[i - 4] :: b.drop (i - 4 + 1) := by simp
    have s2 : b.set (i - 4) y = b.take (i - 4) ++ y :: b.drop (i - 4 + 1) := List.set_eq_take_append_cons_drop .. |>.trans (by rw [if_pos hj])
    rw [s2]
    intro e
    refine sumOf_ne (b.take (i - 4)) (b.drop (i - 4 + 1)) b[i - 4] y hy ?_
    rw [← e, ← s1]

theorem page_poked (n seg row shard : Nat) (x : List UInt8) (i : Nat) (y : UInt8) (h1 : 32 ≤ n) (h2 : n ≤ 65536) (hx : x.length + 19 ≤ n) (hi : i < (pageBytes n seg row shard x).length)
    (hy : (pageBytes n seg row shard x)[i] ≠ y) : readPg ((pageBytes n seg row shard x).set i y) = ((0, 0, 0, 0), [], 23) := by
  have hr : roomOf (((pageBytes n seg row shard x).set i y).length : Int) ≠ 0 := by
    rw [List.length_set, pageBytes_length n seg row shard x hx]
    unfold roomOf
    rw [if_neg (by omega)]
    split <;> omega
  have hs : leNat (((pageBytes n seg row shard x).set i y).take 4) ≠ sumOf (((pageBytes n seg row shard x).set i y).drop 4) := sum_poked _ i y hi hy
  unfold readPg
  rw [if_neg hr, if_pos hs]

theorem rec_poked (seq : Nat) (x : List UInt8) (i : Nat) (y : UInt8) (hx : x.length ≤ 16777216) (h0 : (numBytes x.length).length ≤ i) (hi : i < (recBytes seq x).length) (hy : (recBytes seq x)[i] ≠ y) :
    (readRec ((recBytes seq x).set i y)).2.2.2 = 23 := by
  have hn : readNum ((recBytes seq x).set i y) = (x.length, (numBytes x.length).length, 0) := by
    rw [recBytes, List.set_append_right _ _ h0]
    exact readNum_forth _ _ (by rw [two64_eq]; omega)
  have hl : ((recBytes seq x).set i y).length = (numBytes x.length).length + 12 + x.length := by rw [List.length_set, recBytes_length]
  have hd : ((recBytes seq x).set i y).drop (numBytes x.length).length = (leBytes 4 (sumOf (recBody seq x)) ++ recBody seq x).set (i - (numBytes x.length).length) y := by
    rw [recBytes, List.set_append_right _ _ h0, List.drop_left' rfl]
  have hr : (leBytes 4 (sumOf (recBody seq x)) ++ recBody seq x).length = 12 + x.length := by
    rw [List.length_append, leBytes_length, recBody_length]; omega
  unfold readRec
  rw [hn]
  dsimp only
  rw [if_neg (by simp), if_neg (by omega), if_neg (by omega), hd, List.take_of_length_le (i := 12 + x.length) (by rw [List.length_set]; omega), if_pos]
  refine sum_poked _ _ _ ?_ ?_
  · rw [recBytes_length] at hi
    omega
  · intro e
    apply hy
    rw [← e]
    simp only [recBytes]
    rw [List.getElem_append_right h0]
end Go.Proofs.YtlgeknibdgamgaaDoor
