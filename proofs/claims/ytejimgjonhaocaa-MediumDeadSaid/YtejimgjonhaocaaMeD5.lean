/-
  The dead may go: plain data, for MediumDead.
-/
import Derived.Test.YtejimgjonhaocaaMeD3
namespace Go.Proofs.Ytejimgjonhaocaa
open Go.RowKit

section
variable {dep nxt : Nat} {L K : List Md} {rs : List Nat}
theorem trail_head (hO : Ok dep nxt L) {m : Md} (h : m ∈ L) : m.id ∈ trail L m.id := by
  rw [trail_some hO.down hO.look_zero (look_of_mem hO.rise h)]
  exact List.mem_cons_self
/-- whoever lies upon a dead one is dead -/
theorem dead_up (hO : Ok dep nxt L) {m u : Md} (hm : m ∈ L) (hu : u ∈ L) (ht : m.tgt = u.id) (hd : aliveL L rs u.id = false) : aliveL L rs m.id = false := by
  cases hA : aliveL L rs m.id with
  | false => rfl
  | true =>
    obtain ⟨r, hr, hx⟩ := alive_mem.1 hA
    have h1 : u.id ∈ trail L m.id := by
      rw [trail_some hO.down hO.look_zero (look_of_mem hO.rise hm), ht]
      exact List.mem_cons_of_mem _ (trail_head hO hu)
    have h2 := alive_mem.2 ⟨r, hr, trail_sub hO.down hO.look_zero r m.id hx u.id h1⟩
    rw [h2] at hd
    cases hd
theorem mem_deadL {n : Nat} : n ∈ deadL L rs ↔ (∃ m ∈ L, m.id = n) ∧ aliveL L rs n = false := by
  unfold deadL
  rw [List.mem_filter, List.mem_map]
  simp
/-- what is left of L: all but some dead ones -/
structure Left (L K : List Md) (rs : List Nat) : Prop where
  sub : ∀ m ∈ K, m ∈ L
  all : ∀ m ∈ L, aliveL L rs m.id = true → m ∈ K
/-- the greatest dead one that is left has nobody upon it -/
theorem Left.top (hO : Ok dep nxt L) (h : Left L K rs) {u : Md} (hu : u ∈ K) (hd : aliveL L rs u.id = false) (hg : ∀ m ∈ K, aliveL L rs m.id = false → m.id ≤ u.id) : ups K u.id = 0 := by
  rw [ups_zero]
  intro m hm ht
  have h1 := dead_up hO (h.sub m hm) (h.sub u hu) ht hd
  have h2 := hg m hm h1
  have h3 := hO.down m (h.sub m hm)
  omega
/-- the chains of what is alive are the same in what is left -/
theorem Left.trail (hO : Ok dep nxt L) (h : Left L K rs) (hr : K.Pairwise (fun a b => a.id < b.id)) : ∀ n, (∀ x ∈ trail L n, aliveL L rs x = true) → trail K n = trail L n := by
  have hd : ∀ m ∈ K, m.tgt < m.id := fun m hm => hO.down m (h.sub m hm)
  have h0 : look K 0 = none := look_zero_of fun m hm => hO.lo m (h.sub m hm)
  intro n
  induction n using Nat.strongRecOn with
  | ind n ih =>
    intro ha
    cases hm : look L n with
    | none =>
      rw [trail_none hm, trail_none (look_none.2 fun m hk e => look_none.1 hm m (h.sub m hk) e)]
    | some m =>
      obtain ⟨q1, q2⟩ := look_mem hm
      have e := trail_some hO.down hO.look_zero hm
      have hmK : m ∈ K := h.all m q1 (by rw [q2]; exact ha n (by rw [e]; exact List.mem_cons_self))
      have hlk : look K n = some m := by rw [← q2]; exact look_of_mem hr hmK
      rw [e, trail_some hd h0 hlk, ih m.tgt (by have := hO.down m q1; omega) (fun x hx => ha x (by rw [e]; exact List.mem_cons_of_mem _ hx))]
theorem Left.alive (hO : Ok dep nxt L) (h : Left L K rs) (hr : K.Pairwise (fun a b => a.id < b.id)) (n : Nat) : aliveL K rs n = aliveL L rs n := by
  have e : ∀ r ∈ rs, Go.Proofs.Ytejimgjonhaocaa.trail K r = Go.Proofs.Ytejimgjonhaocaa.trail L r := fun r hr' => h.trail hO hr r fun x hx => alive_mem.2 ⟨r, hr', hx⟩
  rw [Bool.eq_iff_iff, alive_mem, alive_mem]
  constructor
  · rintro ⟨r, h1, h2⟩
    exact ⟨r, h1, by rw [← e r h1]; exact h2⟩
  · rintro ⟨r, h1, h2⟩
    exact ⟨r, h1, by rw [e r h1]; exact h2⟩
/-- where all the dead are gone, none is dead -/
theorem Left.done (hO : Ok dep nxt L) (h : Left L K rs) (hr : K.Pairwise (fun a b => a.id < b.id)) (hall : ∀ m ∈ K, aliveL L rs m.id = true) : deadL K rs = [] := by
  unfold deadL
  rw [List.filter_eq_nil_iff]
  intro n hn
  obtain ⟨m, hm, rfl⟩ := List.mem_map.1 hn
  rw [h.alive hO hr, hall m hm]
  simp
end
end Go.Proofs.Ytejimgjonhaocaa
