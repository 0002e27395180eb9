/-
  FrameBack, reckoned: what is written is read, what is read is written just so: records and pages.
-/
import Derived.Test.YtlgeknibdgamgaaDoorBitsMath
import Derived.Test.YtlgeknibdgamgaaDoorPagesMath
namespace Go.Proofs.YtlgeknibdgamgaaDoor

theorem sum_fits (b : List UInt8) : leNat ((leBytes 4 (sumOf b) ++ b).take 4) = sumOf ((leBytes 4 (sumOf b) ++ b).drop 4) := by
  have h4 : (leBytes 4 (sumOf b)).length = 4 := leBytes_length _ _
  rw [List.take_left' h4, List.drop_left' h4, leNat_sum]
theorem leNat_of {n v : Nat} (h : v < 256 ^ n) : leNat (leBytes n v) = v := by
  rw [leNat_leBytes]
  exact Nat.mod_eq_of_lt h

theorem readRec_forth (v : Nat) (x b : List UInt8) (hv : v < two64) (hx : x.length ≤ 16777216) : readRec (recBytes v x ++ b) = (v, x, (recBytes v x).length, 0) := by
  have hn : readNum (recBytes v x ++ b) = (x.length, (numBytes x.length).length, 0) := by
    rw [recBytes, List.append_assoc]
    exact readNum_forth _ _ (by rw [two64_eq]; omega)
  have hl : (recBytes v x ++ b).length = (numBytes x.length).length + 12 + x.length + b.length := by rw [List.length_append, recBytes_length]
  have hb : (leBytes 4 (sumOf (recBody v x)) ++ recBody v x).length = 12 + x.length := by
    rw [List.length_append, leBytes_length, recBody_length]; omega
  have hd : ((recBytes v x ++ b).drop (numBytes x.length).length).take (12 + x.length) = leBytes 4 (sumOf (recBody v x)) ++ recBody v x := by
    rw [recBytes, List.append_assoc, List.drop_left' rfl, List.take_left' hb]
  have h4 : (leBytes 4 (sumOf (recBody v x))).length = 4 := leBytes_length _ _
  have h8 : (leBytes 8 v).length = 8 := leBytes_length _ _
  have h12 : (leBytes 4 (sumOf (recBody v x)) ++ recBody v x).drop 12 = x := by
    rw [show (12 : Nat) = 4 + 8 from rfl, ← List.drop_drop, List.drop_left' h4, recBody, List.drop_left' h8]
  unfold readRec
  rw [hn]
  dsimp only
  rw [if_neg (by simp), if_neg (by omega), if_neg (by omega), hd, if_neg (fun h => h (sum_fits _)), h12, List.drop_left' h4, recBody, List.take_left' h8,
    leNat_of (n := 8) (by rw [two64_eq] at hv; omega), ← recBytes_length v x]

theorem readRec_back {l : List UInt8} (h : (readRec l).2.2.2 = 0) :
    recBytes (readRec l).1 (readRec l).2.1 = l.take (readRec l).2.2.1 ∧ (readRec l).2.1.length ≤ 16777216 ∧ (readRec l).1 < two64 ∧ (readRec l).2.2.1 ≤ l.length := by
  have hne : (readNum l).2.2 = 0 ∧ (readNum l).1 ≤ 16777216 ∧ (readNum l).2.1 + 12 + (readNum l).1 ≤ l.length ∧
      leNat (((l.drop (readNum l).2.1).take (12 + (readNum l).1)).take 4) = sumOf (((l.drop (readNum l).2.1).take (12 + (readNum l).1)).drop 4) ∧
      readRec l = (leNat ((((l.drop (readNum l).2.1).take (12 + (readNum l).1)).drop 4).take 8), ((l.drop (readNum l).2.1).take (12 + (readNum l).1)).drop 12, (readNum l).2.1 + 12 + (readNum l).1, 0) := by
    unfold readRec at h ⊢
    split at h
    · rename_i h1; exact absurd h h1
    · rename_i h1
      split at h
      · cases h
      · rename_i h2
        split at h
        · cases h
        · rename_i h3
          split at h
          · cases h
          · rename_i h4
            rw [if_neg h1, if_neg h2, if_neg h3, if_neg h4]
            exact ⟨by omega, by omega, by omega, Decidable.not_not.1 h4, rfl⟩
  obtain ⟨h1, h2, h3, h4, h5⟩ := hne
  have hbk := readNum_back h1
  rw [h5]
  dsimp only
  generalize (readNum l).1 = v at *
  generalize hk : (readNum l).2.1 = k at *
  obtain ⟨m, hm⟩ : ∃ m, m = (l.drop k).take (12 + v) := ⟨_, rfl⟩
  have hml : m.length = 12 + v := by rw [hm, List.length_take, List.length_drop]; omega
  rw [← hm] at h4 ⊢
  have hx : (m.drop 12).length = v := by rw [List.length_drop]; omega
  have h8 : leBytes 8 (leNat ((m.drop 4).take 8)) = (m.drop 4).take 8 := by
    have := leBytes_leNat ((m.drop 4).take 8)
    rwa [show ((m.drop 4).take 8).length = 8 by rw [List.length_take, List.length_drop]; omega] at this
  have h4b : leBytes 4 (leNat (m.take 4)) = m.take 4 := by
    have := leBytes_leNat (m.take 4)
    rwa [show (m.take 4).length = 4 by rw [List.length_take]; omega] at this
  have hbody : recBody (leNat ((m.drop 4).take 8)) (m.drop 12) = m.drop 4 := by
    rw [recBody, h8, show (12 : Nat) = 4 + 8 from rfl, ← List.drop_drop, List.take_append_drop]
  refine ⟨?_, by omega, ?_, by omega⟩
  · rw [recBytes, hbody, hx, ← h4, h4b, List.take_append_drop, ← hbk, hm]
    rw [show k + 12 + v = k + (12 + v) by omega]
    exact (List.take_add (l := l) (i := k) (j := 12 + v)).symm
  · have := leNat_lt ((m.drop 4).take 8)
    rw [show ((m.drop 4).take 8).length = 8 by rw [List.length_take, List.length_drop]; omega] at this
    rw [two64_eq]
    exact this

theorem all_nought (l : List UInt8) (h : l.all (· == 0) = true) : l = List.replicate l.length 0 := by
  rw [List.eq_replicate_iff]
  exact ⟨rfl, fun b hb => by simpa using List.all_eq_true.1 h b hb⟩
theorem nought_all (n : Nat) : (List.replicate n (0 : UInt8)).all (· == 0) = true := by simp

theorem readPg_forth (n seg row shard : Nat) (x : List UInt8) (h1 : 32 ≤ n) (h2 : n ≤ 65536) (hx : x.length + 19 ≤ n) (hxr : (x.length : Int) ≤ roomOf (n : Int)) (hseg : seg < two64) (hrow : row ≤ 1073741824) (hsh : shard ≤ 255) :
    readPg (pageBytes n seg row shard x) = ((seg, row, shard, x.length), x, 0) := by
  have hxl : x.length ≤ 65535 := by
    unfold roomOf at hxr
    split at hxr
    · omega
    · split at hxr <;> omega
  rw [two64_eq] at hseg
  have hl := pageBytes_length n seg row shard x hx
  have hr : roomOf ((pageBytes n seg row shard x).length : Int) ≠ 0 := by
    rw [hl]
    unfold roomOf
    rw [if_neg (by omega)]
    split <;> omega
  have c4 : (leBytes 4 (sumOf (pageBody n seg row shard x))).length = 4 := leBytes_length _ _
  have c8 : (leBytes 8 seg).length = 8 := leBytes_length _ _
  have cr : (leBytes 4 row).length = 4 := leBytes_length _ _
  have cs : (leBytes 1 shard).length = 1 := leBytes_length _ _
  have cx : (leBytes 2 x.length).length = 2 := leBytes_length _ _
  have d4 : (pageBytes n seg row shard x).drop 4 = pageBody n seg row shard x := List.drop_left' c4
  have d12 : (pageBytes n seg row shard x).drop 12 = leBytes 4 row ++ (leBytes 1 shard ++ (leBytes 2 x.length ++ (x ++ List.replicate (n - 19 - x.length) 0))) := by
    rw [show (12 : Nat) = 4 + 8 from rfl, ← List.drop_drop, d4, pageBody, List.drop_left' c8]
  have d16 : (pageBytes n seg row shard x).drop 16 = leBytes 1 shard ++ (leBytes 2 x.length ++ (x ++ List.replicate (n - 19 - x.length) 0)) := by
    rw [show (16 : Nat) = 12 + 4 from rfl, ← List.drop_drop, d12, List.drop_left' cr]
  have d17 : (pageBytes n seg row shard x).drop 17 = leBytes 2 x.length ++ (x ++ List.replicate (n - 19 - x.length) 0) := by
    rw [show (17 : Nat) = 16 + 1 from rfl, ← List.drop_drop, d16, List.drop_left' cs]
  have d19 : (pageBytes n seg row shard x).drop 19 = x ++ List.replicate (n - 19 - x.length) 0 := by
    rw [show (19 : Nat) = 17 + 2 from rfl, ← List.drop_drop, d17, List.drop_left' cx]
  have dz : (pageBytes n seg row shard x).drop (19 + x.length) = List.replicate (n - 19 - x.length) 0 := by
    rw [← List.drop_drop, d19, List.drop_left' rfl]
  have hs : leNat ((pageBytes n seg row shard x).take 4) = sumOf ((pageBytes n seg row shard x).drop 4) := sum_fits _
  have esz : leNat (((pageBytes n seg row shard x).drop 17).take 2) = x.length := by rw [d17, List.take_left' cx, leNat_of (by omega)]
  have erow : leNat (((pageBytes n seg row shard x).drop 12).take 4) = row := by rw [d12, List.take_left' cr, leNat_of (by omega)]
  unfold readPg
  rw [if_neg hr, if_neg (fun h => h hs), esz, erow, if_neg, d4, pageBody, List.take_left' c8, leNat_of (by omega), d16, List.take_left' cs, leNat_of (by omega), d19, List.take_left' rfl]
  rw [dz, nought_all, hl]
  simp only [not_true_eq_false, or_false, not_or]
  omega

theorem readPg_back {l : List UInt8} (h : (readPg l).2.2 = 0) :
    pageErr (l.length : Int) ((readPg l).1.2.1 : Int) ((readPg l).1.2.2.1 : Int) (readPg l).2.1.length = 0 ∧
      pageOf (l.length : Int) ((readPg l).1.2.1 : Int) ((readPg l).1.2.2.1 : Int) (readPg l).1.1 (readPg l).2.1 = l ∧ (readPg l).1.1 < two64 ∧ (readPg l).2.1.length ≤ 65535 := by
  have hne : roomOf (l.length : Int) ≠ 0 ∧ leNat (l.take 4) = sumOf (l.drop 4) ∧ leNat ((l.drop 12).take 4) ≤ 1073741824 ∧ (leNat ((l.drop 17).take 2) : Int) ≤ roomOf (l.length : Int) ∧
      (l.drop (19 + leNat ((l.drop 17).take 2))).all (· == 0) = true ∧
      readPg l = ((leNat ((l.drop 4).take 8), leNat ((l.drop 12).take 4), leNat ((l.drop 16).take 1), leNat ((l.drop 17).take 2)), (l.drop 19).take (leNat ((l.drop 17).take 2)), 0) := by
    unfold readPg at h ⊢
    split at h
    · cases h
    · rename_i h1
      split at h
      · cases h
      · rename_i h2
        split at h
        · cases h
        · rename_i h3
          rw [if_neg h1, if_neg h2, if_neg h3]
          simp only [not_or, Decidable.not_not] at h3
          exact ⟨h1, Decidable.not_not.1 h2, by omega, by omega, h3.2.2, rfl⟩
  obtain ⟨h1, h2, h3, h4, h5, h6⟩ := hne
  have hsz : 32 ≤ l.length ∧ l.length ≤ 65536 ∧ roomOf (l.length : Int) ≤ (l.length : Int) - 19 ∧ roomOf (l.length : Int) ≤ 65535 := by
    unfold roomOf at h1 ⊢
    split at h1
    · omega
    · rename_i hh
      rw [if_neg hh]
      split <;> omega
  obtain ⟨z1, z2, z3, z4⟩ := hsz
  rw [h6]
  dsimp only
  generalize hsize : leNat ((l.drop 17).take 2) = size at *
  have hx : ((l.drop 19).take size).length = size := by rw [List.length_take, List.length_drop]; omega
  have hsh : leNat ((l.drop 16).take 1) < 256 := by
    have := leNat_lt ((l.drop 16).take 1)
    rwa [show ((l.drop 16).take 1).length = 1 by rw [List.length_take, List.length_drop]; omega] at this
  have hseg : leNat ((l.drop 4).take 8) < two64 := by
    have := leNat_lt ((l.drop 4).take 8)
    rw [show ((l.drop 4).take 8).length = 8 by rw [List.length_take, List.length_drop]; omega] at this
    rw [two64_eq]
    exact this
  have he : pageErr (l.length : Int) (leNat ((l.drop 12).take 4) : Int) (leNat ((l.drop 16).take 1) : Int) ((l.drop 19).take size).length = 0 := by
    unfold pageErr
    rw [hx, if_neg (by omega), if_neg (by omega)]
  refine ⟨he, ?_, hseg, by omega⟩
  unfold pageOf
  rw [if_pos he, Int.toNat_natCast, Int.toNat_natCast, Int.toNat_natCast]
  have b8 : leBytes 8 (leNat ((l.drop 4).take 8)) = (l.drop 4).take 8 := by
    have := leBytes_leNat ((l.drop 4).take 8)
    rwa [show ((l.drop 4).take 8).length = 8 by rw [List.length_take, List.length_drop]; omega] at this
  have br : leBytes 4 (leNat ((l.drop 12).take 4)) = (l.drop 12).take 4 := by
    have := leBytes_leNat ((l.drop 12).take 4)
    rwa [show ((l.drop 12).take 4).length = 4 by rw [List.length_take, List.length_drop]; omega] at this
  have bs : leBytes 1 (leNat ((l.drop 16).take 1)) = (l.drop 16).take 1 := by
    have := leBytes_leNat ((l.drop 16).take 1)
    rwa [show ((l.drop 16).take 1).length = 1 by rw [List.length_take, List.length_drop]; omega] at this
  have bx : leBytes 2 size = (l.drop 17).take 2 := by
    have := leBytes_leNat ((l.drop 17).take 2)
    rwa [hsize, show ((l.drop 17).take 2).length = 2 by rw [List.length_take, List.length_drop]; omega] at this
  have b4 : leBytes 4 (leNat (l.take 4)) = l.take 4 := by
    have := leBytes_leNat (l.take 4)
    rwa [show (l.take 4).length = 4 by rw [List.length_take]; omega] at this
  have hz : List.replicate (l.length - 19 - size) (0 : UInt8) = l.drop (19 + size) := by
    have := all_nought _ h5
    rw [List.length_drop, show l.length - (19 + size) = l.length - 19 - size by omega] at this
    exact this.symm
  have hbody : pageBody l.length (leNat ((l.drop 4).take 8)) (leNat ((l.drop 12).take 4)) (leNat ((l.drop 16).take 1)) ((l.drop 19).take size) = l.drop 4 := by
    rw [pageBody, hx, b8, br, bs, bx, hz, ← List.drop_drop, List.take_append_drop]
    rw [show l.drop 19 = (l.drop 17).drop 2 from by rw [List.drop_drop], List.take_append_drop]
    rw [show l.drop 17 = (l.drop 16).drop 1 from by rw [List.drop_drop], List.take_append_drop]
    rw [show l.drop 16 = (l.drop 12).drop 4 from by rw [List.drop_drop], List.take_append_drop]
    rw [show l.drop 12 = (l.drop 4).drop 8 from by rw [List.drop_drop], List.take_append_drop]
  rw [pageBytes, hbody, ← h2, b4, List.take_append_drop]
end Go.Proofs.YtlgeknibdgamgaaDoor
