/-
  A table that is read again holds its facts.
-/
import Derived.Test.YtfbhihjnimpjeaaDoorKFaR2
import Derived.Test.YtfbhihjnimpjeaaDoorKFa9
import Derived.Test.YtfbhihjnimpjeaaDoorKPageSpec
import Derived.Test.YtfbhihjnimpjeaaDoorFa15
namespace Go.Proofs.YtfbhihjnimpjeaaDoor

theorem leNat_of4 {v : Nat} (h : v < 4294967296) : leNat (leBytes 4 v) = v := by
  rw [leNat_leBytes]
  exact Nat.mod_eq_of_lt (by omega)
theorem unF_sumd (b : List UInt8) : unF (sumdF b) = some b := by
  unfold unF sumdF
  have h4 : (leBytes 4 (sumOf b)).length = 4 := leBytes_length _ _
  rw [if_pos ⟨by rw [List.length_append]; omega, by rw [List.take_left' h4, List.drop_left' h4, leNat_of4 (sumOf_lt b)]⟩, List.drop_left' h4]
theorem readBy_forth (x r : List UInt8) (most : Nat) (h : x.length ≤ most) (hm : most ≤ 1099511627776) : readBy (bytL x ++ r) (most : Int) = (x, (bytL x).length, 0) := by
  have hn : readNum (bytL x ++ r) = (x.length, (numBytes x.length).length, 0) := by
    unfold bytL
    rw [List.append_assoc]
    exact readNum_forth _ _ (by rw [two64_eq]; omega)
  unfold readBy
  rw [hn]
  dsimp only
  rw [if_neg (by simp), if_neg (by omega), if_neg (by unfold bytL; simp)]
  unfold bytL
  rw [List.append_assoc, List.drop_left' rfl, List.take_left' rfl, List.length_append]
def FitF (f : Fc) : Prop := f.1.size ≤ 1024 ∧ f.2.1 < two64 ∧ f.2.2.length ≤ 1048576
theorem rdF_wr (f : Fc) (r : List UInt8) (h : FitF f) : rdF (wrF f ++ r) = some (f, (wrF f).length) := by
  obtain ⟨k, s, x⟩ := f
  obtain ⟨h1, h2, h3⟩ := h
  dsimp only at h1 h2 h3
  have hk : k.data.toList.length = k.size := by rw [Array.length_toList]; rfl
  have e1 := readBy_forth k.data.toList (numBytes s ++ (bytL x ++ r)) 1024 (by omega) (by omega)
  have e2 := readNum_forth s (bytL x ++ r) h2
  have e3 := readBy_forth x r 1048576 h3 (by omega)
  have w1 : wrF (k, s, x) ++ r = bytL k.data.toList ++ (numBytes s ++ (bytL x ++ r)) := by unfold wrF; simp [List.append_assoc]
  unfold rdF
  rw [w1]
  rw [show ((1024 : Nat) : Int) = 1024 from rfl] at e1
  rw [show ((1048576 : Nat) : Int) = 1048576 from rfl] at e3
  dsimp only
  rw [e1]
  dsimp only
  rw [if_neg (by simp), List.drop_left' rfl, e2]
  dsimp only
  rw [if_neg (by simp)]
  have d2 : (bytL k.data.toList ++ (numBytes s ++ (bytL x ++ r))).drop ((bytL k.data.toList).length + (numBytes s).length) = bytL x ++ r := by
    rw [← List.append_assoc, List.drop_left' (by rw [List.length_append])]
  rw [d2, e3]
  dsimp only
  rw [if_neg (by simp)]
  have : (⟨k.data.toList.toArray⟩ : ByteArray) = k := by simp
  rw [this]
  unfold wrF
  simp [Nat.add_assoc]
theorem wrF_ne (f : Fc) : wrF f ≠ [] := fun h => by
  have h1 := congrArg List.length h
  unfold wrF bytL at h1
  have := numBytes_pos f.2.1
  simp only [List.length_append, List.length_nil] at h1
  omega
theorem fcsF_blk : ∀ (l : List Fc), (∀ f ∈ l, FitF f) → fcsF (blkF l) = some l
  | [], _ => fcsF_nil
  | f :: l, h => by
    have e : blkF (f :: l) = wrF f ++ blkF l := rfl
    have hne : wrF f ++ blkF l ≠ [] := fun q => wrF_ne f (List.append_eq_nil_iff.1 q).1
    rw [e, fcsF_some hne (rdF_wr f _ (h f List.mem_cons_self)), List.drop_left' rfl, fcsF_blk l fun g hg => h g (List.mem_cons_of_mem _ hg)]
    rfl
theorem entR_ent (k : ByteArray) (n left : Nat) (r : List UInt8) (hk : k.size ≤ 1024) (h5 : 5 ≤ n) (hl : n ≤ left) (hn : n < two64) : entR (entF k n ++ r) left = some ((k, n), (entF k n).length) := by
  have hk2 : k.data.toList.length = k.size := by rw [Array.length_toList]; rfl
  have e1 := readBy_forth k.data.toList (numBytes n ++ r) 1024 (by omega) (by omega)
  rw [show ((1024 : Nat) : Int) = 1024 from rfl] at e1
  have e2 := readNum_forth n r hn
  unfold entR
  rw [show entF k n ++ r = bytL k.data.toList ++ (numBytes n ++ r) by unfold entF; simp]
  dsimp only
  rw [e1]
  dsimp only
  rw [if_neg (by simp), List.drop_left' rfl, e2]
  dsimp only
  rw [if_neg (by omega)]
  have : (⟨k.data.toList.toArray⟩ : ByteArray) = k := by simp
  rw [this]
  unfold entF
  simp
theorem blkF_pos (f : Fc) (l : List Fc) : 0 < (blkF (f :: l)).length := by
  have e : blkF (f :: l) = wrF f ++ blkF l := rfl
  have := List.length_pos_iff.2 (wrF_ne f)
  rw [e, List.length_append]
  omega
theorem oneF_blk (f : Fc) (l : List Fc) (h : ∀ g ∈ f :: l, FitF g) : oneF f.1 (sumdF (blkF (f :: l))) = (f :: l, 0) := by
  unfold oneF
  rw [unF_sumd]
  dsimp only
  rw [fcsF_blk _ h]
  dsimp only
  rw [if_pos rfl]
theorem body_back (block : Nat) : ∀ (n : Nat) (l : List Fc), l.length ≤ n → (∀ f ∈ l, FitF f) → (blkF l).length < 9223372036854775808 →
    ∃ ps, partsF (bodyF block l).2 (bodyF block l).1.length = some ps ∧ goC (cutsF ps (bodyF block l).1) = (l, 0)
  | 0, l, hn, _, _ => by
    have : l = [] := List.eq_nil_of_length_eq_zero (by omega)
    subst this
    rw [bodyF_nil]
    exact ⟨[], by rw [partsF_nil]; rfl, rfl⟩
  | n + 1, [], _, _, _ => by
    rw [bodyF_nil]
    exact ⟨[], by rw [partsF_nil]; rfl, rfl⟩
  | n + 1, f :: l, hn, hf, hb => by
    rw [bodyF_cons]
    dsimp only
    have hp := frontN_pos block 0 (l := f :: l) (by simp)
    generalize frontN block 0 (f :: l) = m at *
    obtain ⟨m', rfl⟩ : ∃ m', m = m' + 1 := ⟨m - 1, by omega⟩
    have ht : (f :: l).take (m' + 1) = f :: l.take m' := rfl
    have hd : (f :: l).drop (m' + 1) = l.drop m' := rfl
    have hsplit : (blkF (f :: l)).length = (blkF (f :: l.take m')).length + (blkF (l.drop m')).length := by
      rw [← List.length_append]
      congr 1
      unfold blkF
      rw [← List.flatMap_append, List.cons_append, List.take_append_drop]
    obtain ⟨ps, h1, h2⟩ := body_back block n (l.drop m') (by rw [List.length_drop]; simp at hn; omega) (fun g hg => hf g (List.mem_cons_of_mem _ (List.mem_of_mem_drop hg))) (by omega)
    rw [ht, hd]
    have hpos := blkF_pos f (l.take m')
    have hfk := hf f List.mem_cons_self
    have hfl : ∀ g ∈ f :: l.take m', FitF g := fun g hg => by
      rcases List.mem_cons.1 hg with rfl | hg
      · exact hfk
      · exact hf g (List.mem_cons_of_mem _ (List.mem_of_mem_take hg))
    have hone := oneF_blk f (l.take m') hfl
    have hsl : (sumdF (blkF (f :: l.take m'))).length = 4 + (blkF (f :: l.take m')).length := sumdF_length _
    generalize bodyF block (l.drop m') = r at *
    obtain ⟨T, X⟩ := r
    dsimp only at h1 h2 ⊢
    generalize sumdF (blkF (f :: l.take m')) = sd at *
    generalize (blkF (f :: l.take m')).length = bl at *
    have hent := entR_ent f.1 (4 + bl) (sd ++ T).length X hfk.1 (by omega) (by rw [List.length_append]; omega) (by rw [two64_eq]; omega)
    have hne : entF f.1 (4 + bl) ++ X ≠ [] := fun q => by
      have q1 := (entR_ok hent).1
      have q2 := (entR_ok hent).2.1
      rw [q, List.length_nil] at q2
      omega
    refine ⟨(f.1, 4 + bl) :: ps, ?_, ?_⟩
    · rw [partsF_some hne hent, List.drop_left' rfl]
      dsimp only
      rw [show (sd ++ T).length - (4 + bl) = T.length by rw [List.length_append]; omega, h1]
      rfl
    · rw [cutsF, List.take_left' (by omega), List.drop_left' (by omega), goC, hone, h2]
      simp
theorem tab_back (block : Nat) (fs : List Fc) (hf : ∀ f ∈ fs, FitF f) (hr : rightF fs = true) (hb : (blkF fs).length < 9223372036854775808) (hl : fs.length < 4294967296) (hx : (sumdF (bodyF block fs).2).length < 4294967296) : openF (tabF block fs) = (fs, 0) := by
  obtain ⟨ps, h1, h2⟩ := body_back block fs.length fs (Nat.le_refl _) hf hb
  unfold tabF
  generalize bodyF block fs = r at *
  obtain ⟨T, X⟩ := r
  dsimp only at h1 h2 hx ⊢
  have hft : (footF (sumdF X).length fs.length).length = 12 := by unfold footF; rw [List.length_append, List.length_append, leBytes_length, leBytes_length, leBytes_length]
  have hlen : (T ++ (sumdF X ++ footF (sumdF X).length fs.length)).length = T.length + (sumdF X).length + 12 := by rw [List.length_append, List.length_append, hft]; omega
  have hd : (T ++ (sumdF X ++ footF (sumdF X).length fs.length)).drop (T.length + (sumdF X).length) = footF (sumdF X).length fs.length := by
    rw [← List.append_assoc, List.drop_left' (by rw [List.length_append])]
  have ht : (T ++ (sumdF X ++ footF (sumdF X).length fs.length)).take (T.length + (sumdF X).length) = T ++ sumdF X := by
    rw [← List.append_assoc, List.take_left' (by rw [List.length_append])]
  have f4 : ∀ v, (leBytes 4 v).length = 4 := fun v => leBytes_length _ _
  have g1 : (footF (sumdF X).length fs.length).take 4 = leBytes 4 (sumdF X).length := by
    unfold footF; rw [List.append_assoc, List.take_left' (f4 _)]
  have g2 : ((footF (sumdF X).length fs.length).drop 4).take 4 = leBytes 4 fs.length := by
    unfold footF; rw [List.append_assoc, List.drop_left' (f4 _), List.take_left' (f4 _)]
  have g3 : (footF (sumdF X).length fs.length).take 8 = leBytes 4 (sumdF X).length ++ leBytes 4 fs.length := by
    unfold footF; rw [List.take_left' (by rw [List.length_append, f4, f4])]
  have g4 : ((footF (sumdF X).length fs.length).drop 8).take 4 = leBytes 4 (sumOf (leBytes 4 (sumdF X).length ++ leBytes 4 fs.length)) := by
    unfold footF; rw [List.drop_left' (by rw [List.length_append, f4, f4]), List.take_of_length_le (by rw [f4]; omega)]
  have k1 := leNat_of4 hx
  have k2 := leNat_of4 hl
  have k3 := leNat_of4 (sumOf_lt (leBytes 4 (sumdF X).length ++ leBytes 4 fs.length))
  have hu : ((T ++ sumdF X).drop T.length) = sumdF X := List.drop_left' rfl
  have hgo : goF ps T = (fs, 0) := by rw [goF_cuts, h2]
  unfold openF
  dsimp only
  rw [hlen, if_neg (by omega), show T.length + (sumdF X).length + 12 - 12 = T.length + (sumdF X).length by omega, hd, ht, g1, g2, g3, g4, k1, k2, k3, if_neg (by simp), if_neg (by omega), show T.length + (sumdF X).length - (sumdF X).length = T.length by omega, hu, unF_sumd]
  dsimp only
  rw [h1]
  dsimp only
  have htk : (T ++ (sumdF X ++ footF (sumdF X).length fs.length)).take T.length = T := List.take_left' rfl
  rw [htk, hgo, if_neg (by simp), if_pos ⟨rfl, hr⟩]
end Go.Proofs.YtfbhihjnimpjeaaDoor

/-
  The law's known.
-/
namespace Go.Proofs.YtfbhihjnimpjeaaDoor
open Go.RowKit Go.Sort Go.Lib

def kFact : Fc := (⟨#[107]⟩, 3, [118])
theorem k_build0 : buildE [] 10 = 0 := by decide
theorem k_len0 : (buildB [] 10).length = 16 := by
  unfold buildB
  rw [if_pos k_build0]
  unfold tabF
  rw [bodyF_nil, List.length_append, List.length_append, sumdF_length]
  unfold footF
  rw [List.length_append, List.length_append, leBytes_length, leBytes_length, leBytes_length]
  rfl
theorem k_open0 : openF (buildB [] 10) = ([], 0) := by
  unfold buildB
  rw [if_pos k_build0]
  exact tab_back _ [] (fun f h => by cases h) rfl (by show 0 < _; omega) (by show 0 < _; omega) (by rw [bodyF_nil, sumdF_length]; show 4 < _; omega)
theorem k_fit : FitF kFact := ⟨by show 1 ≤ _; omega, by show 3 < _; rw [two64_eq]; omega, by show 1 ≤ _; omega⟩
theorem k_build1 : buildE [kFact] 10 = 0 := by decide
theorem k_blk : (blkF [kFact]).length = 5 := by
  have e : blkF [kFact] = wrF kFact := by simp [blkF]
  rw [e]
  unfold wrF bytL
  have h1 : numBytes kFact.1.data.toList.length = [1] := by rw [numBytes_lt (by show 1 < 128; omega)]; rfl
  have h2 : numBytes kFact.2.1 = [3] := by rw [numBytes_lt (by show 3 < 128; omega)]; rfl
  have h3 : numBytes kFact.2.2.length = [1] := by rw [numBytes_lt (by show 1 < 128; omega)]; rfl
  rw [h1, h2, h3]
  rfl
theorem k_body : (bodyF 10 [kFact]).2.length ≤ 100 := by
  have h := frontN_pos 10 0 (l := [kFact]) (by simp)
  have h2 := frontN_le 10 [kFact] 0
  rw [bodyF_cons]
  rw [show frontN 10 0 [kFact] = 1 by simp at h2; omega]
  rw [show [kFact].drop 1 = [] from rfl, show [kFact].take 1 = [kFact] from rfl, bodyF_nil, k_blk]
  dsimp only
  have := entF_length kFact.1 (4 + 5) (by show 1 < _; rw [two64_eq]; omega) (by rw [two64_eq]; omega)
  have h1 : kFact.1.size = 1 := rfl
  rw [List.append_nil]
  omega
theorem k_open1 : openF (buildB [kFact] 10) = ([kFact], 0) := by
  unfold buildB
  rw [if_pos k_build1]
  refine tab_back _ [kFact] (fun f h => by rw [List.mem_singleton.1 h]; exact k_fit) rfl (by rw [k_blk]; omega) (by show 1 < _; omega) ?_
  rw [sumdF_length]
  have := k_body
  show 4 + (bodyF 10 [kFact]).2.length < _
  omega
theorem k_len1 : (buildB [kFact] 10).length ≤ 1000 := by
  unfold buildB
  rw [if_pos k_build1]
  unfold tabF
  have := bodyF_len 10 1 [kFact] (Nat.le_refl _) (by rw [k_blk]; omega)
  rw [k_blk] at this
  have h2 := k_body
  have h3 : [kFact].length = 1 := rfl
  rw [List.length_append, List.length_append, sumdF_length]
  unfold footF
  rw [List.length_append, List.length_append, leBytes_length, leBytes_length, leBytes_length]
  show (bodyF 10 [kFact]).1.length + (4 + (bodyF 10 [kFact]).2.length + _) ≤ _
  omega
theorem k_get {w w' : World} {e : Ending} (h : GetP [kFact] ⟨#[107]⟩ w e w') : Below w.heap.size w w' ∧ ∃ V, e = .returned (.tuple #[.agg #[.string ⟨#[107]⟩, .int .u64 3, V], .bool true]) ∧ Own w' w.heap.size V [118] := by
  obtain ⟨i, ⟨hp1, hp2, _⟩, hb, ⟨f, V, h1, h2, h3, h4⟩ | ⟨h1, _⟩⟩ := h
  · have : f = kFact := by
      have := List.mem_of_getElem? h1
      exact List.mem_singleton.1 this
    subst this
    exact ⟨hb, V, h3, h4⟩
  · exfalso
    have h0 : i = 0 := by
      rcases i with _ | i
      · rfl
      · have := hp2 0 kFact (by omega) rfl
        have h0 : cmpF kFact (⟨#[107]⟩, 18446744073709551615, []) = 1 := by
          unfold cmpF
          rw [if_neg (by rw [ne_eq, Decidable.not_not]; exact cmpK_zero.2 rfl), if_neg (by show ¬ 18446744073709551615 < 3; omega), if_pos (by show 3 < 18446744073709551615; omega)]
        rw [h0] at this
        omega
    subst h0
    exact h1 kFact rfl rfl
theorem k_get2 {w w' : World} {e : Ending} (h : GetP [kFact] ⟨#[108]⟩ w e w') : Below w.heap.size w w' ∧ e = .returned (.tuple #[.agg #[.string ⟨#[]⟩, .int .u64 0, .slice none 0 0], .bool false]) := by
  obtain ⟨i, _, hb, ⟨f, V, h1, h2, h3, h4⟩ | ⟨_, h1⟩⟩ := h
  · exfalso
    have : f = kFact := List.mem_singleton.1 (List.mem_of_getElem? h1)
    subst this
    revert h2
    decide
  · exact ⟨hb, h1⟩
end Go.Proofs.YtfbhihjnimpjeaaDoor
