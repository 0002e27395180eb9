/-
  What one chain tells is not changed by what is done elsewhere, plain.
-/
import Derived.Test.YtejimgjonhaocaaMe14
namespace Go.Proofs.Ytejimgjonhaocaa
open Go.RowKit Go.Maps Go.Lib Go.Sort

/-- K behind L: the mediums in S are where they were; one that is fixed keeps its size; no old number comes back -/
structure Sim (nxt : Nat) (L K : List Md) (S : Nat → Prop) : Prop where
  same : ∀ n m, look L n = some m → S n → ∃ m', look K n = some m' ∧ m'.tgt = m.tgt ∧ m'.off = m.off ∧ m'.size = m.size
  old : ∀ n m', look K n = some m' → n < nxt → ∃ m, look L n = some m ∧ (m.fixed = true → m'.size = m.size)
theorem chain_sim {dep dep' nxt nxt' : Nat} {L K : List Md} {S : Nat → Prop} (ho : Ok dep nxt L) (hk : Ok dep' nxt' K) (hs : Sim nxt L K S) : ∀ n b : Nat, (∀ p ∈ chainB L n b, S p.1) → n < nxt → ((∀ m, look L n = some m → m.fixed = true) ∨ chainB L n b ≠ []) → chainB K n b = chainB L n b := by
  intro n
  induction n using Nat.strongRecOn with
  | ind n ih =>
    intro b hS hn hq
    cases hm : look L n with
    | none =>
      rw [chainB_none hm]
      cases hm2 : look K n with
      | none => rw [chainB_none hm2]
      | some m' => obtain ⟨m, e, _⟩ := hs.old n m' hm2 hn; rw [hm] at e; cases e
    | some m =>
      obtain ⟨q1, q2⟩ := look_mem hm
      have hlt := ho.down m q1
      rw [chainB_some ho.down ho.look_zero hm] at hS hq ⊢
      by_cases hb : b < m.size
      · rw [if_pos hb] at hS hq ⊢
        obtain ⟨m', e, t1, t2, t3⟩ := hs.same n m hm (hS (n, b) (.head _))
        rw [chainB_some hk.down hk.look_zero e, t3, if_pos hb, t1, t2]
        rw [ih m.tgt (by omega) _ (fun p hp => hS p (.tail _ hp)) (by omega) (.inl fun u hu => ?_)]
        by_cases h0 : m.tgt = 0
        · rw [h0, ho.look_zero] at hu; cases hu
        · obtain ⟨u', e', f⟩ := ho.under m q1 h0
          rw [hu] at e'
          cases e'
          exact f
      · rw [if_neg hb] at hq ⊢
        have hf : m.fixed = true := by
          rcases hq with hq | hq
          · exact hq m hm
          · exact absurd rfl hq
        cases hm2 : look K n with
        | none => rw [chainB_none hm2]
        | some m' =>
          obtain ⟨u, e, hu⟩ := hs.old n m' hm2 hn
          rw [hm] at e
          cases e
          rw [chainB_some hk.down hk.look_zero hm2, hu hf, if_neg hb]
theorem Sim.refl (nxt : Nat) (L : List Md) (S : Nat → Prop) : Sim nxt L L S := ⟨fun n m h _ => ⟨m, h, rfl, rfl, rfl⟩, fun n m' h _ => ⟨m', h, fun _ => rfl⟩⟩
theorem Sim.turn {nxt : Nat} {L : List Md} {S : Nat → Prop} {g : Md → Md} (hg : ∀ m, (g m).id = m.id) {a : Nat} (h1 : ¬ S a ∨ ∀ m, (g m).tgt = m.tgt ∧ (g m).off = m.off ∧ (g m).size = m.size) (h2 : ∀ m, look L a = some m → m.fixed = true → (g m).size = m.size) : Sim nxt L (chg L a g) S := by
  refine ⟨fun n m hm hS => ?_, fun n m' hm hn => ?_⟩
  · rw [look_chg hg, hm]
    refine ⟨_, rfl, ?_⟩
    dsimp only
    by_cases q : n = a
    · subst q
      rcases h1 with h1 | h1
      · exact absurd hS h1
      · rw [if_pos rfl]; exact h1 m
    · rw [if_neg q]; exact ⟨rfl, rfl, rfl⟩
  · rw [look_chg hg] at hm
    cases e : look L n with
    | none => rw [e] at hm; cases hm
    | some m =>
      rw [e] at hm
      refine ⟨m, rfl, fun hf => ?_⟩
      simp only [Option.map_some, Option.some.injEq] at hm
      subst hm
      by_cases q : n = a
      · subst q; rw [if_pos rfl]; exact h2 m e hf
      · rw [if_neg q]
theorem sim_act {dep nxt : Nat} {L : List Md} (ho : Ok dep nxt L) {S : Nat → Prop} (x : PAct) (hx : ¬ S x.a ∨ x.op ≤ 2) : Sim nxt L (actL dep nxt L x) S := by
  unfold actL
  by_cases h1 : x.op = 1
  · rw [if_pos h1]
    unfold mkA
    split
    · refine ⟨fun n m hm _ => ?_, fun n m' hm hn => ?_⟩
      · have := ho.hi m (look_mem hm).1
        have := (look_mem hm).2
        rw [look_mk ho, if_neg (by omega)]
        exact ⟨m, hm, rfl, rfl, rfl⟩
      · rw [look_mk ho, if_neg (by omega)] at hm
        exact ⟨m', hm, fun _ => rfl⟩
    · exact Sim.refl _ _ _
  rw [if_neg h1]
  by_cases h2 : x.op = 2
  · rw [if_pos h2]
    exact Sim.turn (g := gFix) (fun _ => rfl) (.inr fun _ => ⟨rfl, rfl, rfl⟩) (fun _ _ _ => rfl)
  rw [if_neg h2]
  by_cases h3 : x.op = 3
  · rw [if_pos h3]
    have hS : ¬ S x.a := by rcases hx with q | q; exact q; omega
    unfold resA
    split
    · rename_i he
      refine Sim.turn (g := gRes x.n.toNat) (fun _ => rfl) (.inl hS) (fun m hm hf => ?_)
      unfold resE at he
      rw [hm] at he
      simp only [hf] at he
      cases he
    · exact Sim.refl _ _ _
  rw [if_neg h3]
  by_cases h4 : x.op = 4
  · rw [if_pos h4]
    have hS : ¬ S x.a := by rcases hx with q | q; exact q; omega
    exact Sim.turn (g := gAlone) gAlone_id (.inl hS) (fun _ _ _ => rfl)
  rw [if_neg h4]
  by_cases h5 : x.op = 5
  · rw [if_pos h5]
    have hS : ¬ S x.a := by rcases hx with q | q; exact q; omega
    unfold dropA
    split
    · refine ⟨fun n m hm hSn => ?_, fun n m' hm hn => ?_⟩
      · have q : n ≠ x.a := fun e => hS (e ▸ hSn)
        rw [look_drop, if_neg q]
        exact ⟨m, hm, rfl, rfl, rfl⟩
      · rw [look_drop] at hm
        split at hm
        · cases hm
        · exact ⟨m', hm, fun _ => rfl⟩
    · exact Sim.refl _ _ _
  rw [if_neg h5]
  exact Sim.refl _ _ _
/-- an act that hits none of a chain leaves it -/
theorem chain_act {dep nxt : Nat} {L : List Md} (ho : Ok dep nxt L) (x : PAct) (id : Nat) (b : Int) (hx : (∀ p ∈ chainL L id b, p.1 ≠ x.a) ∨ x.op ≤ 2) (hne : chainL L id b ≠ []) : chainL (actL dep nxt L x) id b = chainL L id b := by
  by_cases hb : b < 0
  · rw [chainL_neg _ _ hb, chainL_neg _ _ hb]
  · obtain ⟨b, rfl⟩ : ∃ k : Nat, b = (k : Int) := ⟨b.toNat, by omega⟩
    rw [chainL_nat] at hx hne ⊢
    rw [chainL_nat]
    have hid : id < nxt := by
      cases hm : look L id with
      | none => exact absurd (chainB_none hm) hne
      | some m => have := ho.hi m (look_mem hm).1; have := (look_mem hm).2; omega
    refine chain_sim (S := fun n => ∃ p ∈ chainB L id b, p.1 = n) ho (ho.act x) (sim_act ho x ?_) id b (fun p hp => ⟨p, hp, rfl⟩) hid (.inr hne)
    rcases hx with q | q
    · exact .inl fun ⟨p, hp, e⟩ => q p hp e
    · exact .inr q
end Go.Proofs.Ytejimgjonhaocaa
