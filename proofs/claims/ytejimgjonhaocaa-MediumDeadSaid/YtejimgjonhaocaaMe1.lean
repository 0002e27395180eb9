/-
  Mediums, as plain data: a list by rising numbers; how deep one lies; its chain.
-/
import Derived.Test.YtejimgjonhaocaaOwnV
namespace Go.Proofs.Ytejimgjonhaocaa
open Go.RowKit

structure Md where
  id : Nat
  tgt : Nat
  off : Nat
  size : Nat
  fixed : Bool

/-- the medium with a number -/
def look (L : List Md) (n : Nat) : Option Md := L.find? (fun m => m.id == n)
/-- how many have n for their target -/
def ups (L : List Md) (n : Nat) : Nat := L.countP (fun m => m.tgt == n)
/-- how many mediums are gone through, at most k -/
def deepN (L : List Md) : Nat → Nat → Nat
  | 0, _ => 0
  | k + 1, n => match look L n with
    | none => 0
    | some m => 1 + deepN L k m.tgt
def deepL (L : List Md) (n : Nat) : Nat := deepN L n n
/-- the places of a block -/
def chainN (L : List Md) : Nat → Nat → Nat → List (Nat × Nat)
  | 0, _, _ => []
  | k + 1, n, b => match look L n with
    | none => []
    | some m => if b < m.size then (n, b) :: chainN L k m.tgt (b + m.off) else []
def chainL (L : List Md) (n : Nat) (b : Int) : List (Nat × Nat) := if b < 0 then [] else chainN L n n b.toNat

structure Ok (dep nxt : Nat) (L : List Md) : Prop where
  d1 : 1 ≤ dep
  d2 : dep ≤ 64
  n1 : 1 ≤ nxt
  rise : L.Pairwise (fun a b => a.id < b.id)
  lo : ∀ m ∈ L, 1 ≤ m.id
  hi : ∀ m ∈ L, m.id < nxt
  down : ∀ m ∈ L, m.tgt < m.id
  under : ∀ m ∈ L, m.tgt ≠ 0 → ∃ u, look L m.tgt = some u ∧ u.fixed = true
  size : ∀ m ∈ L, 1 ≤ m.size ∧ m.size ≤ 1048576
  off : ∀ m ∈ L, m.off ≤ 1048576
  deep : ∀ m ∈ L, deepL L m.id ≤ dep

theorem look_mem {L : List Md} {n : Nat} {m : Md} (h : look L n = some m) : m ∈ L ∧ m.id = n := by
  unfold look at h
  exact ⟨List.mem_of_find?_eq_some h, by simpa using List.find?_some h⟩
theorem look_none {L : List Md} {n : Nat} : look L n = none ↔ ∀ m ∈ L, m.id ≠ n := by
  unfold look
  rw [List.find?_eq_none]
  simp
theorem look_of_mem {L : List Md} (hr : L.Pairwise (fun a b => a.id < b.id)) {m : Md} (hm : m ∈ L) : look L m.id = some m := by
  induction L with
  | nil => cases hm
  | cons a L ih =>
    unfold look
    rw [List.find?_cons]
    rcases List.mem_cons.1 hm with rfl | hm'
    · simp
    · have hlt := (List.pairwise_cons.1 hr).1 m hm'
      rw [show (a.id == m.id) = false by simp; omega]
      exact ih (List.pairwise_cons.1 hr).2 hm'
theorem look_append (L K : List Md) (n : Nat) : look (L ++ K) n = (look L n).or (look K n) := by
  unfold look; exact List.find?_append
theorem look_one (a : Md) (n : Nat) : look [a] n = if a.id = n then some a else none := by
  unfold look
  by_cases h : a.id = n <;> simp [List.find?_cons, h]
/-- one medium becomes another one -/
def chg (L : List Md) (n : Nat) (g : Md → Md) : List Md := L.map fun m => if m.id = n then g m else m
theorem look_chg {g : Md → Md} (hg : ∀ m, (g m).id = m.id) (L : List Md) (n k : Nat) : look (chg L n g) k = (look L k).map fun m => if k = n then g m else m := by
  induction L with
  | nil => rfl
  | cons a L ih =>
    unfold look chg at *
    rw [List.map_cons, List.find?_cons, List.find?_cons, ih]
    have e : (if a.id = n then g a else a).id = a.id := by split <;> simp [hg]
    rw [e]
    by_cases h : a.id = k
    · subst h; simp
    · rw [show (a.id == k) = false by simpa using h]
theorem mem_chg {g : Md → Md} {L : List Md} {n : Nat} {m : Md} (h : m ∈ chg L n g) : ∃ a ∈ L, m = if a.id = n then g a else a := by
  unfold chg at h
  obtain ⟨a, ha, e⟩ := List.mem_map.1 h
  exact ⟨a, ha, e.symm⟩
theorem chg_rise {g : Md → Md} (hg : ∀ m, (g m).id = m.id) {L : List Md} (n : Nat) (h : L.Pairwise (fun a b => a.id < b.id)) : (chg L n g).Pairwise (fun a b => a.id < b.id) := by
  unfold chg
  rw [List.pairwise_map]
  refine h.imp fun {a b} hab => ?_
  have e1 : (if a.id = n then g a else a).id = a.id := by split <;> simp [hg]
  have e2 : (if b.id = n then g b else b).id = b.id := by split <;> simp [hg]
  rw [e1, e2]; exact hab
theorem ups_append (L K : List Md) (n : Nat) : ups (L ++ K) n = ups L n + ups K n := by unfold ups; rw [List.countP_append]
theorem ups_pos {L : List Md} {n : Nat} : 0 < ups L n ↔ ∃ m ∈ L, m.tgt = n := by
  unfold ups
  rw [List.countP_pos_iff]
  simp
theorem ups_zero {L : List Md} {n : Nat} : ups L n = 0 ↔ ∀ m ∈ L, m.tgt ≠ n := by
  unfold ups
  rw [List.countP_eq_zero]
  simp
theorem ups_le (L : List Md) (n : Nat) : ups L n ≤ L.length := List.countP_le_length
theorem ups_chg_same {g : Md → Md} (hg : ∀ m, (g m).tgt = m.tgt) (L : List Md) (n k : Nat) : ups (chg L n g) k = ups L k := by
  unfold ups chg
  rw [List.countP_map]
  congr 1
  funext m
  by_cases h : m.id = n <;> simp [h, hg]

/-! how deep -/
section
variable {dep nxt : Nat} {L K : List Md}
theorem deepN_zero (h : look L 0 = none) (k : Nat) : deepN L k 0 = 0 := by
  cases k with
  | zero => rfl
  | succ k => simp [deepN, h]
theorem Ok.look_zero (h : Ok dep nxt L) : look L 0 = none := look_none.2 fun m hm e => by have := h.lo m hm; omega
theorem look_zero_of (h : ∀ m ∈ L, 1 ≤ m.id) : look L 0 = none := look_none.2 fun m hm e => by have := h m hm; omega
theorem deepN_irr (hd : ∀ m ∈ L, m.tgt < m.id) (h0 : look L 0 = none) : ∀ n j k : Nat, n ≤ j → n ≤ k → deepN L j n = deepN L k n := by
  intro n
  induction n using Nat.strongRecOn with
  | ind n ih =>
    intro j k hj hk
    cases n with
    | zero => rw [deepN_zero h0, deepN_zero h0]
    | succ n =>
      obtain ⟨j, rfl⟩ : ∃ i, j = i + 1 := ⟨j - 1, by omega⟩
      obtain ⟨k, rfl⟩ : ∃ i, k = i + 1 := ⟨k - 1, by omega⟩
      unfold deepN
      cases hm : look L (n + 1) with
      | none => rfl
      | some m =>
        obtain ⟨q1, q2⟩ := look_mem hm
        have := hd m q1
        show 1 + _ = 1 + _
        rw [ih m.tgt (by omega) j k (by omega) (by omega)]
theorem deepL_none {n : Nat} (h : look L n = none) : deepL L n = 0 := by
  unfold deepL
  cases n with
  | zero => rfl
  | succ n => simp [deepN, h]
theorem deepL_some (hd : ∀ m ∈ L, m.tgt < m.id) (h0 : look L 0 = none) {n : Nat} {m : Md} (h : look L n = some m) : deepL L n = 1 + deepL L m.tgt := by
  obtain ⟨q1, q2⟩ := look_mem h
  have := hd m q1
  obtain ⟨k, rfl⟩ : ∃ i, n = i + 1 := ⟨n - 1, by omega⟩
  unfold deepL
  rw [deepN, h]
  show 1 + _ = 1 + _
  rw [deepN_irr hd h0 m.tgt k m.tgt (by omega) (by omega)]
theorem chainN_zero (h : look L 0 = none) (k b : Nat) : chainN L k 0 b = [] := by
  cases k with
  | zero => rfl
  | succ k => simp [chainN, h]
theorem chainN_irr (hd : ∀ m ∈ L, m.tgt < m.id) (h0 : look L 0 = none) : ∀ n j k b : Nat, n ≤ j → n ≤ k → chainN L j n b = chainN L k n b := by
  intro n
  induction n using Nat.strongRecOn with
  | ind n ih =>
    intro j k b hj hk
    cases n with
    | zero => rw [chainN_zero h0, chainN_zero h0]
    | succ n =>
      obtain ⟨j, rfl⟩ : ∃ i, j = i + 1 := ⟨j - 1, by omega⟩
      obtain ⟨k, rfl⟩ : ∃ i, k = i + 1 := ⟨k - 1, by omega⟩
      unfold chainN
      cases hm : look L (n + 1) with
      | none => rfl
      | some m =>
        obtain ⟨q1, q2⟩ := look_mem hm
        have := hd m q1
        show (if b < m.size then _ else _) = (if b < m.size then _ else _)
        rw [ih m.tgt (by omega) j k (b + m.off) (by omega) (by omega)]
/-- the chain, by a number that is no bound -/
def chainB (L : List Md) (n b : Nat) : List (Nat × Nat) := chainN L n n b
theorem chainB_none {n b : Nat} (h : look L n = none) : chainB L n b = [] := by
  unfold chainB
  cases n with
  | zero => rfl
  | succ n => simp [chainN, h]
theorem chainB_some (hd : ∀ m ∈ L, m.tgt < m.id) (h0 : look L 0 = none) {n b : Nat} {m : Md} (h : look L n = some m) : chainB L n b = if b < m.size then (n, b) :: chainB L m.tgt (b + m.off) else [] := by
  obtain ⟨q1, q2⟩ := look_mem h
  have := hd m q1
  obtain ⟨k, rfl⟩ : ∃ i, n = i + 1 := ⟨n - 1, by omega⟩
  unfold chainB
  rw [chainN, h]
  show (if b < m.size then _ else _) = _
  rw [chainN_irr hd h0 m.tgt k m.tgt _ (by omega) (by omega)]
theorem chainL_nat (L : List Md) (n b : Nat) : chainL L n (b : Int) = chainB L n b := by
  unfold chainL chainB
  rw [if_neg (by omega)]; rfl
theorem chainL_neg (L : List Md) (n : Nat) {b : Int} (h : b < 0) : chainL L n b = [] := by unfold chainL; rw [if_pos h]
theorem chainB_len (hd : ∀ m ∈ L, m.tgt < m.id) (h0 : look L 0 = none) : ∀ n b : Nat, (chainB L n b).length ≤ deepL L n := by
  intro n
  induction n using Nat.strongRecOn with
  | ind n ih =>
    intro b
    cases hm : look L n with
    | none => rw [chainB_none hm]; exact Nat.zero_le _
    | some m =>
      obtain ⟨q1, q2⟩ := look_mem hm
      have := hd m q1
      rw [chainB_some hd h0 hm, deepL_some hd h0 hm]
      split
      · have := ih m.tgt (by omega) (b + m.off)
        simp only [List.length_cons]; omega
      · exact Nat.zero_le _
theorem deepL_le (h : Ok dep nxt L) (n : Nat) : deepL L n ≤ dep := by
  cases hm : look L n with
  | none => rw [deepL_none hm]; exact Nat.zero_le _
  | some m =>
    obtain ⟨q1, q2⟩ := look_mem hm
    exact q2 ▸ h.deep m q1
/-- where targets are as they were, or none, no one is deeper -/
theorem deepN_mono (h0 : look L 0 = none) (hK : ∀ n m, look K n = some m → ∃ a, look L n = some a ∧ (m.tgt = a.tgt ∨ m.tgt = 0)) : ∀ k n : Nat, deepN K k n ≤ deepN L k n := by
  have k0 : look K 0 = none := by
    cases e : look K 0 with
    | none => rfl
    | some m => obtain ⟨a, ha, _⟩ := hK 0 m e; rw [h0] at ha; cases ha
  intro k
  induction k with
  | zero => intro n; exact Nat.le_refl _
  | succ k ih =>
    intro n
    unfold deepN
    cases hm : look K n with
    | none => exact Nat.zero_le _
    | some m =>
      obtain ⟨a, ha, q⟩ := hK n m hm
      rw [ha]
      show 1 + _ ≤ 1 + _
      rcases q with q | q
      · rw [q]; have := ih a.tgt; omega
      · rw [q, deepN_zero k0]; omega
/-- a greater number does not matter -/
theorem deepN_below {N : Nat} (hd : ∀ m ∈ L, m.tgt < m.id) (h : ∀ n, n < N → look K n = look L n) : ∀ k n : Nat, n < N → deepN K k n = deepN L k n := by
  intro k
  induction k with
  | zero => intro n _; rfl
  | succ k ih =>
    intro n hn
    unfold deepN
    rw [h n hn]
    cases hm : look L n with
    | none => rfl
    | some m =>
      obtain ⟨q1, q2⟩ := look_mem hm
      have := hd m q1
      show 1 + _ = 1 + _
      rw [ih m.tgt (by omega)]
end
end Go.Proofs.Ytejimgjonhaocaa
