/-
  Which mediums are alive: plain data.
-/
import Derived.Test.YtejimgjonhaocaaMeD2
namespace Go.Proofs.Ytejimgjonhaocaa
open Go.RowKit

/-- the numbers that one lies upon, its own first -/
def trailN (L : List Md) : Nat → Nat → List Nat
  | 0, _ => []
  | k + 1, n => match look L n with
    | none => []
    | some m => n :: trailN L k m.tgt
def trail (L : List Md) (n : Nat) : List Nat := trailN L n n
/-- some root's chain goes through it -/
def aliveL (L : List Md) (rs : List Nat) (n : Nat) : Bool := rs.any fun r => (trail L r).contains n
/-- the dead ones, by rising numbers -/
def deadL (L : List Md) (rs : List Nat) : List Nat := (L.map Md.id).filter fun n => !aliveL L rs n
section
variable {L : List Md}
theorem trailN_irr (hd : ∀ m ∈ L, m.tgt < m.id) (h0 : look L 0 = none) : ∀ n j k : Nat, n ≤ j → n ≤ k → trailN L j n = trailN L k n := by
  intro n
  induction n using Nat.strongRecOn with
  | ind n ih =>
    intro j k hj hk
    by_cases hn : n = 0
    · subst hn
      have hz : ∀ i, trailN L i 0 = [] := fun i => by cases i with
        | zero => rfl
        | succ i => simp [trailN, h0]
      rw [hz, hz]
    · obtain ⟨j, rfl⟩ : ∃ i, j = i + 1 := ⟨j - 1, by omega⟩
      obtain ⟨k, rfl⟩ : ∃ i, k = i + 1 := ⟨k - 1, by omega⟩
      unfold trailN
      cases hm : look L n with
      | none => rfl
      | some m =>
        obtain ⟨q1, q2⟩ := look_mem hm
        have := hd m q1
        show n :: trailN L j m.tgt = n :: trailN L k m.tgt
        rw [ih m.tgt (by omega) j k (by omega) (by omega)]
theorem trail_none {n : Nat} (h : look L n = none) : trail L n = [] := by
  unfold trail
  cases n with
  | zero => rfl
  | succ n => simp [trailN, h]
theorem trail_some (hd : ∀ m ∈ L, m.tgt < m.id) (h0 : look L 0 = none) {n : Nat} {m : Md} (h : look L n = some m) : trail L n = n :: trail L m.tgt := by
  obtain ⟨q1, q2⟩ := look_mem h
  have := hd m q1
  obtain ⟨k, rfl⟩ : ∃ i, n = i + 1 := ⟨n - 1, by omega⟩
  show trailN L (k + 1) (k + 1) = _
  unfold trailN
  rw [h]
  show _ :: _ = _ :: _
  rw [show trail L m.tgt = trailN L m.tgt m.tgt from rfl, trailN_irr hd h0 m.tgt k m.tgt (by omega) (Nat.le_refl _)]
/-- the numbers of a chain fall -/
theorem trail_le (hd : ∀ m ∈ L, m.tgt < m.id) (h0 : look L 0 = none) (n : Nat) : ∀ k ∈ trail L n, k ≤ n := by
  induction n using Nat.strongRecOn with
  | ind n ih =>
    intro k hk
    cases hm : look L n with
    | none => rw [trail_none hm] at hk; cases hk
    | some m =>
      obtain ⟨q1, q2⟩ := look_mem hm
      have := hd m q1
      rw [trail_some hd h0 hm] at hk
      rcases List.mem_cons.1 hk with rfl | hk
      · exact Nat.le_refl _
      · have := ih m.tgt (by omega) k hk
        omega
/-- the chain of one beneath lies in the chain -/
theorem trail_sub (hd : ∀ m ∈ L, m.tgt < m.id) (h0 : look L 0 = none) (n : Nat) : ∀ k ∈ trail L n, ∀ x ∈ trail L k, x ∈ trail L n := by
  induction n using Nat.strongRecOn with
  | ind n ih =>
    intro k hk x hx
    cases hm : look L n with
    | none => rw [trail_none hm] at hk; cases hk
    | some m =>
      obtain ⟨q1, q2⟩ := look_mem hm
      have := hd m q1
      have e := trail_some hd h0 hm
      rw [e] at hk
      rcases List.mem_cons.1 hk with rfl | hk
      · exact hx
      · rw [e]
        exact List.mem_cons_of_mem _ (ih m.tgt (by omega) k hk x hx)
/-- THE INNER LOOP: the roots rs are gone through, of r's chain the numbers ahead of c -/
structure Gone (L : List Md) (rs : List Nat) (r c : Nat) (S : Nat → Bool) : Prop where
  pre : ∃ p, trail L r = p ++ trail L c ∧ (∀ k ∈ p, c < k) ∧ ∀ n, S n = true ↔ (aliveL L rs n = true ∨ n ∈ p)
theorem alive_mem {rs : List Nat} {n : Nat} : aliveL L rs n = true ↔ ∃ r ∈ rs, n ∈ trail L r := by
  unfold aliveL
  simp
theorem Gone.start {rs : List Nat} {S : Nat → Bool} (h : ∀ n, S n = aliveL L rs n) (r : Nat) : Gone L rs r r S := ⟨[], rfl, (fun k h => by cases h), fun n => by rw [h n]; simp⟩
/-- c is new: it is noted, and the next one is its target -/
theorem Gone.step {rs : List Nat} {r c : Nat} {S : Nat → Bool} {m : Md} (hd : ∀ m ∈ L, m.tgt < m.id) (h0 : look L 0 = none) (h : Gone L rs r c S) (hm : look L c = some m) : Gone L rs r m.tgt (fun n => if n = c then true else S n) := by
  obtain ⟨p, h1, h2, h3⟩ := h.pre
  obtain ⟨q1, q2⟩ := look_mem hm
  have hlt := hd m q1
  refine ⟨p ++ [c], by rw [h1, trail_some hd h0 hm, List.append_assoc]; rfl, fun k hk => ?_, fun n => ?_⟩
  · rcases List.mem_append.1 hk with hk | hk
    · have := h2 k hk; omega
    · have : k = c := by simpa using hk
      omega
  · by_cases e : n = c
    · subst e; simp
    · rw [if_neg e, h3 n]; simp [e]
/-- nothing is left of the chain -/
theorem Gone.stop {rs : List Nat} {r c : Nat} {S : Nat → Bool} (h : Gone L rs r c S) (hm : look L c = none) : ∀ n, S n = aliveL L (rs ++ [r]) n := fun n => by
  obtain ⟨p, h1, h2, h3⟩ := h.pre
  rw [trail_none hm, List.append_nil] at h1
  rw [Bool.eq_iff_iff, h3 n, alive_mem, alive_mem]
  constructor
  · rintro (⟨r', h, k⟩ | k)
    · exact ⟨r', List.mem_append_left _ h, k⟩
    · exact ⟨r, by simp, by rw [h1]; exact k⟩
  · rintro ⟨r', h, k⟩
    rcases List.mem_append.1 h with h | h
    · exact .inl ⟨r', h, k⟩
    · have : r' = r := by simpa using h
      subst this
      exact .inr (by rw [← h1]; exact k)
/-- c was met: what is beneath was met, too -/
theorem Gone.met {rs : List Nat} {r c : Nat} {S : Nat → Bool} (hd : ∀ m ∈ L, m.tgt < m.id) (h0 : look L 0 = none) (h : Gone L rs r c S) (hS : S c = true) : ∀ n, S n = aliveL L (rs ++ [r]) n := fun n => by
  obtain ⟨p, h1, h2, h3⟩ := h.pre
  have hc : ∃ r' ∈ rs, c ∈ trail L r' := by
    rcases (h3 c).1 hS with q | q
    · exact alive_mem.1 q
    · have := h2 c q; omega
  obtain ⟨r0, hr0, hc0⟩ := hc
  rw [Bool.eq_iff_iff, h3 n, alive_mem, alive_mem]
  constructor
  · rintro (⟨r', h, k⟩ | k)
    · exact ⟨r', List.mem_append_left _ h, k⟩
    · exact ⟨r, by simp, by rw [h1]; exact List.mem_append_left _ k⟩
  · rintro ⟨r', h, k⟩
    rcases List.mem_append.1 h with h | h
    · exact .inl ⟨r', h, k⟩
    · have : r' = r := by simpa using h
      subst this
      rw [h1] at k
      rcases List.mem_append.1 k with k | k
      · exact .inr k
      · exact .inl ⟨r0, hr0, trail_sub hd h0 r0 c hc0 n k⟩
end
end Go.Proofs.Ytejimgjonhaocaa
