/-
  Unquoting, words, as plain lists; what is quoted is unquoted again, and is a word.
-/
import Derived.Test.YtncaaiaffioegaaDoorNSeg
set_option linter.unusedSimpArgs false
namespace Go.Proofs.YtncaaiaffioegaaDoor

/-! ### Unquote -/
/-- a digit's worth, as a reader in base sixteen takes it -/
def hexv (x : UInt8) : Option Nat :=
  if 48 ≤ x.toNat ∧ x.toNat ≤ 57 then some (x.toNat - 48)
  else if 97 ≤ x.toNat ∧ x.toNat ≤ 102 then some (x.toNat - 87)
  else if 65 ≤ x.toNat ∧ x.toNat ≤ 70 then some (x.toNat - 55)
  else none
theorem hexv_hexd (n : Nat) (h : n < 16) : hexv (hexd n) = some n := by
  unfold hexd
  split
  · have e : (UInt8.ofNat (48 + n)).toNat = 48 + n := by rw [UInt8.toNat_ofNat']; omega
    unfold hexv
    rw [e, if_pos (by omega)]
    congr 1; omega
  · have e : (UInt8.ofNat (87 + n)).toNat = 87 + n := by rw [UInt8.toNat_ofNat']; omega
    unfold hexv
    rw [e, if_neg (by omega), if_pos (by omega)]
    congr 1; omega
theorem hexd_back (x : UInt8) (n : Nat) (h : hexv x = some n) (hl : ¬ (65 ≤ x.toNat ∧ x.toNat ≤ 70)) : x = hexd n ∧ n < 16 := by
  unfold hexv at h
  split at h
  · cases h
    refine ⟨?_, by omega⟩
    unfold hexd
    rw [if_pos (by omega), show 48 + (x.toNat - 48) = x.toNat by omega, UInt8.ofNat_toNat]
  · split at h
    · cases h
      refine ⟨?_, by omega⟩
      unfold hexd
      rw [if_neg (by omega), show 87 + (x.toNat - 87) = x.toNat by omega, UInt8.ofNat_toNat]
    · cases h

/-- what the front of an escaped text stands for, and how many bytes do so -/
def unesc1 : List UInt8 → UInt8 × Nat
  | [] => (0, 1)
  | [x] => (x, 1)
  | x :: y :: r => if x.toNat ≠ 92 then (x, 1) else if y.toNat ≠ 120 then (y, 2) else match r with
    | a :: b :: _ => match hexv a, hexv b with
      | some p, some q => (UInt8.ofNat (16 * p + q), 4)
      | _, _ => (y, 2)
    | _ => (y, 2)
theorem unesc1_pos (l : List UInt8) : 1 ≤ (unesc1 l).2 := by
  unfold unesc1
  split
  · simp
  · simp
  · split
    · simp
    · split
      · simp
      · split
        · split <;> simp
        · simp
theorem unesc1_le (l : List UInt8) (h : l ≠ []) : (unesc1 l).2 ≤ l.length := by
  unfold unesc1
  split
  · exact absurd rfl h
  · simp
  · split
    · simp
    · split
      · simp
      · split
        · split <;> simp
        · simp
def unescF : Nat → List UInt8 → List UInt8
  | 0, _ => []
  | f + 1, l => if l.length = 0 then [] else (unesc1 l).1 :: unescF f (l.drop (unesc1 l).2)
def unesc (l : List UInt8) : List UInt8 := unescF l.length l
theorem unescF_fuel (f : Nat) : ∀ l : List UInt8, l.length ≤ f → unescF f l = unesc l := by
  induction f using Nat.strongRecOn with
  | ind f ih =>
    intro l h
    cases f with
    | zero =>
      have : l.length = 0 := by omega
      unfold unesc
      rw [this]
    | succ f =>
      cases hn : l.length with
      | zero => unfold unesc; rw [hn]; simp [unescF, hn]
      | succ n =>
        have hp := unesc1_pos l
        have hd : (l.drop (unesc1 l).2).length ≤ n := by rw [List.length_drop]; omega
        unfold unesc
        rw [hn]
        simp only [unescF, hn]
        rw [if_neg (by omega), if_neg (by omega), ih f (by omega) _ (by omega)]
        by_cases hnf : n < f + 1
        · rw [ih n hnf _ hd]
        · obtain rfl : n = f := by omega
          rw [ih n (by omega) _ hd]
theorem unesc_nil : unesc [] = [] := rfl
theorem unesc_cons (l : List UInt8) (h : l ≠ []) : unesc l = (unesc1 l).1 :: unesc (l.drop (unesc1 l).2) := by
  have hl : 0 < l.length := List.length_pos_iff.2 h
  obtain ⟨n, hn⟩ : ∃ n, l.length = n + 1 := ⟨l.length - 1, by omega⟩
  have hp := unesc1_pos l
  conv => lhs; unfold unesc
  rw [hn]
  simp only [unescF]
  rw [if_neg (by omega), unescF_fuel n _ (by rw [List.length_drop]; omega)]
theorem unesc_le (l : List UInt8) : (unesc l).length ≤ l.length := by
  generalize hn : l.length = n
  induction n using Nat.strongRecOn generalizing l with
  | ind n ih =>
    by_cases h : l = []
    · rw [h]; simp [unesc_nil]
    · rw [unesc_cons l h, List.length_cons]
      have hp := unesc1_pos l
      have hl : 0 < l.length := List.length_pos_iff.2 h
      have := ih (l.drop (unesc1 l).2).length (by rw [List.length_drop]; omega) _ rfl
      rw [List.length_drop] at this
      omega

theorem unesc_plain (x : UInt8) (r : List UInt8) (h : x.toNat ≠ 92) : unesc (x :: r) = x :: unesc r := by
  rw [unesc_cons _ (by simp)]
  have e : unesc1 (x :: r) = (x, 1) := by
    cases r with
    | nil => rfl
    | cons y r => simp [unesc1, h]
  rw [e]; rfl
theorem unesc_plains (b : List UInt8) (r : List UInt8) (h : ∀ x ∈ b, x.toNat ≠ 92) : unesc (b ++ r) = b ++ unesc r := by
  induction b with
  | nil => rfl
  | cons x b ih =>
    rw [List.cons_append, unesc_plain x _ (h x (by simp)), ih (fun y hy => h y (by simp [hy]))]
    rfl
theorem unesc_esc (y : UInt8) (r : List UInt8) (h : y.toNat ≠ 120) : unesc (92 :: y :: r) = y :: unesc r := by
  rw [unesc_cons _ (by simp)]
  have e : unesc1 (92 :: y :: r) = (y, 2) := by
    simp [unesc1, h]
  rw [e]; rfl
theorem hexd_num (x : UInt8) : UInt8.ofNat (16 * (x.toNat / 16) + x.toNat % 16) = x := by
  rw [show 16 * (x.toNat / 16) + x.toNat % 16 = x.toNat by omega, UInt8.ofNat_toNat]
theorem unesc_hex (x : UInt8) (r : List UInt8) : unesc (qhex x ++ r) = x :: unesc r := by
  have hx := x.toNat_lt
  show unesc (92 :: 120 :: hexd (x.toNat / 16) :: hexd (x.toNat % 16) :: r) = _
  rw [unesc_cons _ (by simp)]
  have e : unesc1 (92 :: 120 :: hexd (x.toNat / 16) :: hexd (x.toNat % 16) :: r) = (x, 4) := by
    have h := hexd_num x
    generalize hy : 16 * (x.toNat / 16) + x.toNat % 16 = y at h
    simp only [unesc1, hexv_hexd _ (show x.toNat / 16 < 16 by omega), hexv_hexd _ (show x.toNat % 16 < 16 by omega), hy, h]
    rfl
  rw [e]; rfl
theorem unesc_qp (s : Seg) (h : s.Good) (r : List UInt8) : unesc (qp s ++ r) = s.bs ++ unesc r := by
  unfold qp
  cases h with
  | low x hx =>
    dsimp only
    split
    · rename_i h1
      have e : UInt8.ofNat x.toNat = x := UInt8.ofNat_toNat
      rw [e]
      exact unesc_esc x r (by omega)
    · split
      · exact unesc_hex x r
      · exact unesc_plain x r (by omega)
  | high bs v h2 h4 hv hm hs hb he =>
    dsimp only
    rw [if_neg (by omega), if_neg (by simp; omega)]
    exact unesc_plains bs r (fun x hx => by have := hb x hx; omega)
  | torn x hx =>
    dsimp only
    rw [if_neg (by omega), if_pos (by simp)]
    exact unesc_hex x r
theorem unesc_qps (l : List UInt8) : unesc ((segsOf l).flatMap qp) = l := by
  refine seg_ind (P := fun l => unesc ((segsOf l).flatMap qp) = l) rfl ?_ l
  intro l h ih
  rw [segsOf_cons l h, List.flatMap_cons, unesc_qp _ (seg_good l h), ih]
  exact List.take_append_drop _ _
/-- what stands between the first byte and the last -/
def inner (l : List UInt8) : List UInt8 := (l.drop 1).take (l.length - 2)
theorem inner_quote (l : List UInt8) : inner (quoteL l) = (segsOf l).flatMap qp := by
  unfold inner quoteL
  simp
theorem unesc_quote (l : List UInt8) : unesc (inner (quoteL l)) = l := by rw [inner_quote, unesc_qps]
theorem quote_inj {a b : List UInt8} (h : quoteL a = quoteL b) : a = b := by rw [← unesc_quote a, ← unesc_quote b, h]
/-- UNQUOTE: the text and the error -/
def unquoteL (l : List UInt8) : List UInt8 × Nat := if quoteL (unesc (inner l)) = l then (unesc (inner l), 0) else ([], 24)
theorem unquote_quote (l : List UInt8) : unquoteL (quoteL l) = (l, 0) := by unfold unquoteL; rw [unesc_quote, if_pos rfl]
theorem quote_two (l : List UInt8) : 2 ≤ (quoteL l).length := by simp [quoteL]
theorem unquote_short (l : List UInt8) (h : l.length < 2) : unquoteL l = ([], 24) := by
  unfold unquoteL
  rw [if_neg]
  intro e
  have := quote_two (unesc (inner l))
  rw [e] at this
  omega

/-! ### Words -/
def blankB (x : UInt8) : Bool := x.toNat = 32 || x.toNat = 9 || x.toNat = 10 || x.toNat = 13
/-- how many bytes stand up to the closing quotation mark, with it; was the last byte a \ that takes the next one? -/
def qscan : Bool → List UInt8 → Nat
  | _, [] => 0
  | true, _ :: r => 1 + qscan false r
  | false, x :: r => if x.toNat = 92 then 1 + qscan true r else if x.toNat = 34 then 1 else 1 + qscan false r
def qsize : List UInt8 → Nat
  | [] => 0
  | x :: r => if x.toNat = 34 then 1 + qscan false r else 0
def wsize (l : List UInt8) : Nat := qsize l + ((l.drop (qsize l)).takeWhile fun x => !blankB x).length
def wordsF : Nat → List UInt8 → List (List UInt8)
  | 0, _ => []
  | f + 1, l => if l.length = 0 then [] else if wsize l = 0 then wordsF f (l.drop 1) else l.take (wsize l) :: wordsF f (l.drop (wsize l))
def wordsL (l : List UInt8) : List (List UInt8) := wordsF l.length l
theorem qscan_le (t : Bool) (l : List UInt8) : qscan t l ≤ l.length := by
  induction l generalizing t with
  | nil => cases t <;> simp [qscan]
  | cons x r ih =>
    have h1 := ih true
    have h2 := ih false
    cases t <;> simp only [qscan, List.length_cons]
    · split
      · omega
      · split <;> omega
    · omega
theorem qsize_le (l : List UInt8) : qsize l ≤ l.length := by
  cases l with
  | nil => simp [qsize]
  | cons x r =>
    have := qscan_le false r
    simp only [qsize, List.length_cons]
    split <;> omega
theorem wsize_le (l : List UInt8) : wsize l ≤ l.length := by
  unfold wsize
  have h1 := qsize_le l
  have h2 : ((l.drop (qsize l)).takeWhile fun x => !blankB x).length ≤ (l.drop (qsize l)).length := (List.takeWhile_sublist _).length_le
  rw [List.length_drop] at h2
  omega
theorem wordsF_fuel (f : Nat) : ∀ l : List UInt8, l.length ≤ f → wordsF f l = wordsL l := by
  induction f using Nat.strongRecOn with
  | ind f ih =>
    intro l h
    cases f with
    | zero =>
      have : l.length = 0 := by omega
      unfold wordsL
      rw [this]
    | succ f =>
      cases hn : l.length with
      | zero => unfold wordsL; rw [hn]; simp [wordsF, hn]
      | succ n =>
        unfold wordsL
        rw [hn]
        simp only [wordsF, hn]
        rw [if_neg (show ¬ n + 1 = 0 by omega), if_neg (show ¬ n + 1 = 0 by omega)]
        by_cases hw : wsize l = 0
        · rw [if_pos hw, if_pos hw, ih f (by omega) _ (by rw [List.length_drop]; omega)]
          by_cases hnf : n < f + 1
          · rw [ih n hnf _ (by rw [List.length_drop]; omega)]
          · obtain rfl : n = f := by omega
            rw [ih n (by omega) _ (by rw [List.length_drop]; omega)]
        · rw [if_neg hw, if_neg hw, ih f (by omega) _ (by rw [List.length_drop]; omega)]
          by_cases hnf : n < f + 1
          · rw [ih n hnf _ (by rw [List.length_drop]; omega)]
          · obtain rfl : n = f := by omega
            rw [ih n (by omega) _ (by rw [List.length_drop]; omega)]
theorem wordsL_nil : wordsL [] = [] := rfl
theorem wordsL_blank (l : List UInt8) (h : l ≠ []) (hw : wsize l = 0) : wordsL l = wordsL (l.drop 1) := by
  have hl : 0 < l.length := List.length_pos_iff.2 h
  obtain ⟨n, hn⟩ : ∃ n, l.length = n + 1 := ⟨l.length - 1, by omega⟩
  conv => lhs; unfold wordsL
  rw [hn]
  simp only [wordsF]
  rw [if_neg (by omega), if_pos hw, wordsF_fuel n _ (by rw [List.length_drop]; omega)]
theorem wordsL_word (l : List UInt8) (hw : wsize l ≠ 0) : wordsL l = l.take (wsize l) :: wordsL (l.drop (wsize l)) := by
  have hwl := wsize_le l
  obtain ⟨n, hn⟩ : ∃ n, l.length = n + 1 := ⟨l.length - 1, by omega⟩
  conv => lhs; unfold wordsL
  rw [hn]
  simp only [wordsF]
  rw [if_neg (by omega), if_neg hw, wordsF_fuel n _ (by rw [List.length_drop]; omega)]

/-- the scan over a stretch -/
theorem qscan_high (b : List UInt8) (r : List UInt8) (h : ∀ x ∈ b, 128 ≤ x.toNat) : qscan false (b ++ r) = b.length + qscan false r := by
  induction b with
  | nil => simp
  | cons x b ih =>
    have hx := h x (by simp)
    rw [List.cons_append]
    simp only [qscan]
    rw [if_neg (by omega), if_neg (by omega), ih (fun y hy => h y (by simp [hy])), List.length_cons]
    omega
/-- the scan goes rune by rune as it goes byte by byte -/
theorem qscan_seg (t : Bool) (s : Seg) (h : s.Good) (r : List UInt8) :
    qscan t (s.bs ++ r) = if t = true then s.bs.length + qscan false r else if s.v = 92 then 1 + qscan true r else if s.v = 34 then 1 else s.bs.length + qscan false r := by
  cases h with
  | low x hx =>
    cases t <;> rfl
  | high bs v h2 h4 hv hm hs hb he =>
    dsimp only
    rw [if_neg (show ¬ v = 92 by omega), if_neg (show ¬ v = 34 by omega)]
    cases t with
    | false => rw [if_neg (by simp)]; exact qscan_high bs r hb
    | true =>
      rw [if_pos rfl]
      obtain ⟨x, b, rfl⟩ : ∃ x b, bs = x :: b := by cases bs with | nil => simp at h2 | cons x b => exact ⟨x, b, rfl⟩
      rw [List.cons_append]
      simp only [qscan]
      rw [qscan_high b r (fun y hy => hb y (by simp [hy])), List.length_cons]
      omega
  | torn x hx =>
    dsimp only
    cases t
    · show qscan false (x :: r) = _
      simp only [qscan]
      rw [if_neg (show ¬ x.toNat = 92 by omega), if_neg (show ¬ x.toNat = 34 by omega)]
      rfl
    · rfl
theorem hexd_val (n : Nat) (h : n < 16) : (hexd n).toNat ≠ 92 ∧ (hexd n).toNat ≠ 34 := by
  unfold hexd
  split
  · have e : (UInt8.ofNat (48 + n)).toNat = 48 + n := by rw [UInt8.toNat_ofNat']; omega
    rw [e]; omega
  · have e : (UInt8.ofNat (87 + n)).toNat = 87 + n := by rw [UInt8.toNat_ofNat']; omega
    rw [e]; omega
theorem qscan_qp (s : Seg) (h : s.Good) (r : List UInt8) : qscan false (qp s ++ r) = (qp s).length + qscan false r := by
  have hex : ∀ x : UInt8, qscan false (qhex x ++ r) = (qhex x).length + qscan false r := fun x => by
    have hx := x.toNat_lt
    obtain ⟨a1, a2⟩ := hexd_val (x.toNat / 16) (by omega)
    obtain ⟨b1, b2⟩ := hexd_val (x.toNat % 16) (by omega)
    show qscan false (92 :: 120 :: hexd (x.toNat / 16) :: hexd (x.toNat % 16) :: r) = 4 + _
    simp only [qscan]
    rw [if_pos (by decide), if_neg a1, if_neg a2, if_neg b1, if_neg b2]
    omega
  unfold qp
  cases h with
  | low x hx =>
    dsimp only
    split
    · have e : UInt8.ofNat x.toNat = x := UInt8.ofNat_toNat
      rw [e]
      show qscan false (92 :: x :: r) = 2 + _
      simp only [qscan]
      rw [if_pos (by decide)]
      omega
    · split
      · exact hex x
      · show qscan false (x :: r) = 1 + _
        simp only [qscan]
        rw [if_neg (by omega), if_neg (by omega)]
  | high bs v h2 h4 hv hm hs hb he =>
    dsimp only
    rw [if_neg (by omega), if_neg (by simp; omega)]
    exact qscan_high bs r hb
  | torn x hx =>
    dsimp only
    rw [if_neg (by omega), if_pos (by simp)]
    exact hex x
theorem qscan_qps (l r : List UInt8) : qscan false ((segsOf l).flatMap qp ++ r) = ((segsOf l).flatMap qp).length + qscan false r := by
  refine seg_ind (P := fun l => qscan false ((segsOf l).flatMap qp ++ r) = ((segsOf l).flatMap qp).length + qscan false r) (by simp [segsOf_nil]) ?_ l
  intro l h ih
  rw [segsOf_cons l h, List.flatMap_cons, List.append_assoc, qscan_qp _ (seg_good l h), ih, List.length_append]
  omega
theorem qsize_quote (l r : List UInt8) : qsize (quoteL l ++ r) = (quoteL l).length := by
  unfold quoteL
  rw [List.cons_append]
  simp only [qsize]
  rw [if_pos (by decide), List.append_assoc, qscan_qps]
  simp [qscan]
  omega
/-- a quoted text ahead of a blank is a word -/
theorem words_quote (l r : List UInt8) (x : UInt8) (hx : blankB x = true) : wordsL (quoteL l ++ x :: r) = quoteL l :: wordsL (x :: r) := by
  have hw : wsize (quoteL l ++ x :: r) = (quoteL l).length := by
    unfold wsize
    rw [qsize_quote, List.drop_left' rfl, List.takeWhile_cons]
    simp [hx]
  have h2 := quote_two l
  rw [wordsL_word _ (by omega), hw, List.take_left' rfl, List.drop_left' rfl]
theorem words_skip (r : List UInt8) (x : UInt8) (hx : blankB x = true) : wordsL (x :: r) = wordsL r := by
  have hx34 : ¬ x.toNat = 34 := by
    intro e
    simp [blankB, e] at hx
  have hq : qsize (x :: r) = 0 := by simp only [qsize]; rw [if_neg hx34]
  have hw : wsize (x :: r) = 0 := by
    unfold wsize
    rw [hq, List.drop_zero, List.takeWhile_cons]
    simp [hx]
  rw [wordsL_blank _ (by simp) hw]
  rfl
theorem words_lines (ls : List (List UInt8)) : wordsL (ls.flatMap fun l => 32 :: (quoteL l ++ [10])) = ls.map quoteL := by
  induction ls with
  | nil => rfl
  | cons l ls ih =>
    rw [List.flatMap_cons, List.map_cons, List.cons_append, words_skip _ _ (by decide), List.append_assoc, List.singleton_append, words_quote _ _ _ (by decide), words_skip _ _ (by decide), ih]
end Go.Proofs.YtncaaiaffioegaaDoor
