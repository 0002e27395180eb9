/-
  Arguments opened: numbers, a text with its bulk.
-/
import Derived.Test.YtghcfmkmndldoaaElOpen
import Derived.Test.YtghcfmkmndldoaaKEl57
namespace Go.Proofs.Ytghcfmkmndldoaa
set_option maxRecDepth 20000
open Go.ChangeShapes Go.WideShapes Go.ChangeAt Go.ChangeMaps Go.RowKit Go.Joins Go.Deep

section
variable {H : Type} {enc : TypeId × Value → H} {w : World} {base : Nat} {v : Value} {d : DataW H} {p : List MemPlace}
theorem open_strB (hok : Value.okWide Try.prog w .any base 9 v) (h : DataW.Trod enc Try.prog w 0 (fun _ => true) true 9 v d p) : ∃ s : ByteArray, v = .string s ∧ s.size ≤ Rows.uptoBulk d := by
  obtain ⟨s, rfl, _⟩ := open_str hok h
  obtain ⟨n, hn⟩ := h
  have hn' : DataW.trod enc Try.prog w 0 (fun _ => true) true n 9 [.string s] = some (d, p) := by simpa [Value.cells] using hn
  obtain ⟨k, e0, e0y, _⟩ := DataW.trod_string Try.underlying9 hn'
  cases e0
  refine ⟨s, rfl, ?_⟩
  have e1 : d = .lit (.string s.data.toList) := congrArg Prod.fst e0y
  rw [e1, Rows.uptoBulk]
  have hk : s.data.toList.length = s.size := by rw [Array.length_toList]; rfl
  omega
theorem open_u64s (hok : Value.okWide Try.prog w .any base 23 v) (h : DataW.Trod enc Try.prog w 0 (fun _ => true) true 23 v d p) :
    ∃ (A : Option Addr) (fs : List Nat) (c : Nat), v = .slice A fs.length c ∧ RN w w.heap.size A fs ∧ fs.length ≤ Rows.uptoBulk d ∧ ∀ z ∈ fs, z < 18446744073709551616 := by
  obtain ⟨a0, len, cap, rfl⟩ := okWide_slice Try.underlying23 hok
  obtain ⟨n, hn⟩ := h
  have hn' : DataW.trod enc Try.prog w 0 (fun _ => true) true n 23 [.slice a0 len cap] = some (d, p) := by simpa [Value.cells] using hn
  rcases open_ints Try.underlying23 Try.underlying24 (by kernel_rfl) hn' with ⟨hcs, _⟩ | ⟨x, l, c, zs, hcs, _, hl, hm, hz, hy, hcell, hwz⟩
  · cases hcs
    exact ⟨none, [], 0, rfl, fun k z h => by simp at h, Nat.zero_le _, fun z h => by cases h⟩
  · cases hcs
    have hz' : zs.length = cap := by simpa using hz
    have hlen : ((zs.take len).map Int.toNat).length = len := by simp; omega
    refine ⟨some x, (zs.take len).map Int.toNat, cap, by rw [hlen], fun k u hu => ?_, ?_, fun u hu => ?_⟩
    · rw [List.getElem?_map, Option.map_eq_some_iff] at hu
      obtain ⟨z, hz1, rfl⟩ := hu
      rw [List.getElem?_take] at hz1
      split at hz1
      · have hk : k < zs.length := (List.getElem?_eq_some_iff.1 hz1).1
        have hzk : zs[k] = z := by rw [List.getElem?_eq_getElem hk] at hz1; exact Option.some.inj hz1
        have hc := hcell k hk
        have hg : zs.getD k 0 = z := by simp [List.getD, hz1]
        rw [hg] at hc
        have hb := bounds_u64 (hwz z (by rw [← hzk]; exact List.getElem_mem hk))
        have hlt := World.block_lt_of_cell? w _ hc
        rw [add_block] at hlt
        obtain ⟨xb, xo, xs⟩ := x
        have hsp : xs = none := by
          have := World.cell?_spot (w := w) (hcell 0 (by omega))
          simpa [Addr.add] using this
        subst hsp
        refine ⟨xb, xo, rfl, hlt, ?_⟩
        rw [add_flat] at hc
        rw [hc, show ((z.toNat : Nat) : Int) = z by omega]
      · cases hz1
    · have e1 : d = _ := congrArg Prod.fst hy
      rw [hlen, e1, Rows.uptoBulk]
      have := bulk_len (H := H) (lits .u64 (zs.take len))
      have h2 : (lits (H := H) .u64 (zs.take len)).length = (zs.take len).length := by simp [lits]
      rw [h2, List.length_take] at this
      omega
    · obtain ⟨z, hz1, rfl⟩ := List.mem_map.1 hu
      have hb := bounds_u64 (hwz z (List.mem_of_mem_take hz1))
      omega
end
end Go.Proofs.Ytghcfmkmndldoaa
