/-
  Add.
-/
import Derived.Test.YtghcfmkmndldoaaEl37
import Derived.Test.YtghcfmkmndldoaaEl16
import Derived.Test.YtghcfmkmndldoaaEl12
namespace Go.Proofs.Ytghcfmkmndldoaa
open Go.RowKit Go.Sort Go.Lib

theorem mono_A {l : List Ec} (h : PlainE l) (k : Ec) : MonoE l (fun x => Op.bytesLess x.2.1.toList k.1.toList) := fun i j x y hij hx hy hq => by
  rcases Nat.lt_or_ge i j with q | q
  · have h1 := plain_rise h hx hy q
    have h2 := h.ok y (List.mem_of_getElem? hy)
    exact ke_kl h1 (kl_trans h2 hq)
  · obtain rfl : i = j := by omega
    rw [hx] at hy
    cases hy
    exact hq
theorem mono_B {l : List Ec} (h : PlainE l) (k : Ec) : MonoE l (fun x => leB x.1 k.2.1) := fun i j x y hij hx hy hq => by
  rcases Nat.lt_or_ge i j with q | q
  · have h1 := plain_rise h hx hy q
    have h2 := h.ok x (List.mem_of_getElem? hx)
    exact leB_iff.2 (ke_trans h2.ke (ke_trans h1 (leB_iff.1 hq)))
  · obtain rfl : i = j := by omega
    rw [hx] at hy
    cases hy
    exact hq
theorem add_cuts {l : List Ec} {e : Ec} {a b : Nat} (hp : PlainE l) (he : kl e.1 e.2.1) (ha : CntP l (fun x => Op.bytesLess x.2.1.toList e.1.toList) a) (hb : CntP l (fun x => leB x.1 e.2.1) b) :
    a ≤ b ∧ (∀ i x, l[i]? = some x → i < a → kl x.2.1 e.1) ∧ (∀ i x, l[i]? = some x → b ≤ i → kl e.2.1 x.1) := by
  refine ⟨Decidable.byContradiction fun q => ?_, fun i x hx hi => (ha.2 i x hx).2 hi, fun i x hx hi => ?_⟩
  · have hlt : b < l.length := by have := ha.1; omega
    obtain ⟨x, hx⟩ : ∃ x, l[b]? = some x := ⟨_, List.getElem?_eq_getElem hlt⟩
    have h1 : kl x.2.1 e.1 := (ha.2 b x hx).2 (by omega)
    have h2 := (hb.2 b x hx).1 (leB_iff.2 (kl.ke (kl_trans (hp.ok x (List.mem_of_getElem? hx)) (kl_trans h1 he))))
    omega
  · rcases ke_or x.1 e.2.1 with q | q
    · have := (hb.2 i x hx).1 (leB_iff.2 q)
      omega
    · exact q
theorem plain_one {e : Ec} (he : kl e.1 e.2.1) : PlainE [e] := ⟨fun x hx => by rw [List.mem_singleton.1 hx]; exact he, List.pairwise_singleton _ _⟩
theorem top_one {e : Ec} (he : kl e.1 e.2.1) (j : ByteArray) : topE [e] j = if covE e j = true then e.2.2 + 1 else 0 := by
  by_cases h : covE e j = true
  · rw [if_pos h, top_in (plain_one he) h]
  · rw [if_neg h, top_out h]
    rfl
end Go.Proofs.Ytghcfmkmndldoaa
