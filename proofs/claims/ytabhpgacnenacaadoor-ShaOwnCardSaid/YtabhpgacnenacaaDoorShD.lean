/-
  A digest as plain data: what it holds behind so many bytes.
-/
import Derived.Test.YtabhpgacnenacaaDoorSh1
namespace Go.Proofs.YtabhpgacnenacaaDoor

theorem blocksN_add (j : Nat) : ∀ (k : Nat) (v : W8) (l : List UInt8), blocksN (j + k) v l = blocksN k (blocksN j v l) (l.drop (64 * j)) := by
  induction j with
  | zero => intro k v l; rw [Nat.zero_add]; rfl
  | succ j ih =>
    intro k v l
    rw [show j + 1 + k = (j + k) + 1 from by omega]
    show blocksN (j + k) _ _ = blocksN k (blocksN j _ _) _
    rw [ih, List.drop_drop, show 64 * (j + 1) = 64 + 64 * j from by omega]
theorem blocksN_take (j : Nat) : ∀ (v : W8) (l r : List UInt8), 64 * j ≤ l.length → blocksN j v (l ++ r) = blocksN j v l := by
  induction j with
  | zero => intro v l r _; rfl
  | succ j ih =>
    intro v l r h
    show blocksN j (withL numsL v ((l ++ r).take 64)) ((l ++ r).drop 64) = blocksN j (withL numsL v (l.take 64)) (l.drop 64)
    rw [List.take_append_of_le_length (by omega), List.drop_append_of_le_length (by omega), ih _ _ _ (by rw [List.length_drop]; omega)]
/-- the words v and the rest are those behind the bytes L -/
structure DgOk (v : W8) (rest L : List UInt8) : Prop where
  len : rest.length = 64
  words : v = blocksN (L.length / 64) start8 L
  rst : rest.take (L.length % 64) = L.drop (64 * (L.length / 64))
section
variable {v : W8} {rest L b : List UInt8}
/-- few more: they go into the rest -/
theorem DgOk.few (h : DgOk v rest L) (hb : L.length % 64 + b.length < 64) : DgOk v (rest.take (L.length % 64) ++ b ++ rest.drop (L.length % 64 + b.length)) (L ++ b) := by
  have h1 := h.len
  have e1 : (L ++ b).length / 64 = L.length / 64 := by rw [List.length_append]; omega
  have e2 : (L ++ b).length % 64 = L.length % 64 + b.length := by rw [List.length_append]; omega
  refine ⟨by simp; omega, ?_, ?_⟩
  · rw [e1, blocksN_take _ _ _ _ (by omega)]; exact h.words
  · rw [e1, e2, h.rst, List.drop_append_of_le_length (by omega)]
    have hl : (L.drop (64 * (L.length / 64)) ++ b).length = L.length % 64 + b.length := by simp; omega
    rw [← hl, List.take_left]
/-- the rest is filled, and taken -/
theorem DgOk.fill (h : DgOk v rest L) (hb : L.length % 64 + b.length = 64) :
    (rest.take (L.length % 64) ++ b ++ rest.drop (L.length % 64 + b.length)).length = 64 ∧ withL numsL v (rest.take (L.length % 64) ++ b ++ rest.drop (L.length % 64 + b.length)) = blocksN ((L ++ b).length / 64) start8 (L ++ b) ∧ (L ++ b).length % 64 = 0 := by
  have h1 := h.len
  have e1 : (L ++ b).length / 64 = L.length / 64 + 1 := by rw [List.length_append]; omega
  have e2 : (L ++ b).length % 64 = 0 := by rw [List.length_append]; omega
  refine ⟨by simp; omega, ?_, e2⟩
  rw [e1, blocksN_add, blocksN_take _ _ _ _ (by omega), ← h.words, h.rst, hb, List.drop_of_length_le (l := rest) (by omega), List.append_nil, List.drop_append_of_le_length (by omega)]
  show _ = blocksN 1 v _
  show withL numsL v _ = withL numsL v (List.take 64 _)
  rw [List.take_of_length_le (by simp; omega)]
/-- whole blocks, and what is left -/
theorem DgOk.whole (h1 : rest.length = 64) (hw : v = blocksN (L.length / 64) start8 L) (h0 : L.length % 64 = 0) :
    DgOk (blocksN (b.length / 64) v (b.take (64 * (b.length / 64)))) (b.drop (64 * (b.length / 64)) ++ rest.drop (b.length % 64)) (L ++ b) := by
  have e1 : (L ++ b).length / 64 = L.length / 64 + b.length / 64 := by rw [List.length_append]; omega
  have e2 : (L ++ b).length % 64 = b.length % 64 := by rw [List.length_append]; omega
  have hl : 64 * (L.length / 64) = L.length := by omega
  refine ⟨by simp; omega, ?_, ?_⟩
  · rw [e1, blocksN_add, blocksN_take _ _ _ _ (by omega), ← hw, hl, List.drop_left]
    have := blocksN_take (b.length / 64) v (b.take (64 * (b.length / 64))) (b.drop (64 * (b.length / 64))) (by simp; omega)
    rw [List.take_append_drop] at this
    exact this.symm
  · have e3 : 64 * ((L ++ b).length / 64) = L.length + 64 * (b.length / 64) := by rw [e1]; omega
    rw [e2, e3, List.drop_length_add_append]
    have : (b.drop (64 * (b.length / 64))).length = b.length % 64 := by simp; omega
    rw [← this, List.take_left]
end
/-- the end: what is written, and what comes of it -/
theorem tailL_len (n : Nat) : (tailL n).length = 1 + padN n + 8 := by simp [tailL, bytes8]; omega
theorem pad_whole (L : List UInt8) : (L ++ tailL L.length).length % 64 = 0 := by
  rw [List.length_append, tailL_len]
  unfold padN
  omega
theorem sha_of {v : W8} {rest L : List UInt8} (h : DgOk v rest (L ++ tailL L.length)) : hashL v = shaL L := by
  unfold shaL blocks
  rw [h.words]
end Go.Proofs.YtabhpgacnenacaaDoor
