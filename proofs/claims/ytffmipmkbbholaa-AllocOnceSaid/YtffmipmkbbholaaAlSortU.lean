/-
  SortFunc of units by byPlace.
-/
import Derived.Test.YtffmipmkbbholaaAlPlace
namespace Go.Proofs.Ytffmipmkbbholaa
open Go.RowKit Go.Maps Go.Shelf Go.Lib Go.Sort

/-- BLOCK gb HOLDS the units us -/
def HoldsU (w : World) (gb : Nat) (us : List (Int × Int)) : Prop := ∀ k u, us[k]? = some u → w.cell? ⟨gb, k * 2, none⟩ = some (.int .i64 u.1) ∧ w.cell? ⟨gb, k * 2 + 1, none⟩ = some (.int .i64 u.2)
theorem encU_len (u : Int × Int) : (encU u).length = 2 := rfl
theorem OwnU.frozen {w : World} {base gb n c : Nat} {us : List (Int × Int)} (h : OwnU w base (.slice (some ⟨gb, 0, none⟩) n c) us) (i : Nat) : w.frozen? ⟨gb, i, none⟩ = false := by
  rcases h.2 with ⟨h1, _⟩ | ⟨g, cap, cur, hv, hb, hg, _⟩
  · cases h1
  · cases hv
    simp [World.frozen?, hg]
section
variable {w w' : World} {gb : Nat} {us : List (Int × Int)}
theorem holdsU_to (h : HoldsU w gb us) (hf : ∀ i, w.frozen? ⟨gb, i, none⟩ = false) : HoldsK encU 2 w gb 0 us.toArray := by
  intro j hj
  have hj2 : j < us.length * 2 := by simpa using hj
  have hk : j / 2 < us.length := by omega
  have e : (flatK encU 2 us.toArray)[j]! = (encU us[j / 2])[j % 2]! := by
    rw [get_flatK _ _ _ _ (by simpa using hj2), getElem!_pos us.toArray (j / 2) (by simpa using hk)]
    simp
  obtain ⟨h0, h1⟩ := h (j / 2) _ (List.getElem?_eq_getElem hk)
  refine ⟨?_, hf _⟩
  rw [e, Nat.zero_add]
  rcases Nat.mod_two_eq_zero_or_one j with q | q
  · rw [q]
    rw [show j / 2 * 2 = j by omega] at h0
    exact h0
  · rw [q]
    rw [show j / 2 * 2 + 1 = j by omega] at h1
    exact h1
theorem holdsU_from {d : Array (Int × Int)} (h : HoldsK encU 2 w gb 0 d) : HoldsU w gb d.toList := by
  intro k u hu
  have hk : k < d.size := by simpa using (List.getElem?_eq_some_iff.1 hu).1
  have hg : d[k]! = u := by
    rw [getElem!_pos d k hk]
    rw [List.getElem?_eq_getElem (by simpa using hk)] at hu
    simpa using hu
  have h0 := (h (k * 2) (by simp; omega)).1
  have h1 := (h (k * 2 + 1) (by simp; omega)).1
  rw [get_flatK _ _ _ _ (by omega), show k * 2 / 2 = k by omega, show k * 2 % 2 = 0 by omega, hg, Nat.zero_add] at h0
  rw [get_flatK _ _ _ _ (by omega), show (k * 2 + 1) / 2 = k by omega, show (k * 2 + 1) % 2 = 1 by omega, hg, Nat.zero_add] at h1
  exact ⟨h0, h1⟩
theorem sortWorldK_block {blk off m k : Nat} {dk : Array (Int × Int)} {os : Array Obj} (hk : k < w.heap.size) (hne : k ≠ blk) : (sortWorldK encU 2 w blk off m dk os).heap[k]? = w.heap[k]? := by
  unfold sortWorldK putRowK putRow mapBlock grow Sort.ahead
  simp only []
  rw [Array.getElem?_append_left (by simpa using hk), Array.getElem?_modify]
  rw [if_neg (fun e => hne e.symm)]
set_option maxRecDepth 100000 in
theorem sortU_any (cap n : Nat) (hn : n = us.length) (h : HoldsU w gb us) (hf : ∀ i, w.frozen? ⟨gb, i, none⟩ = false) (hb : gb < w.heap.size) (hsz : n ≤ 1000000) :
    Calls Try.prog 40 #[.slice (some ⟨gb, 0, none⟩) n cap, .func (.func 41) #[] #[]] w fun e w' => e = .returned (.tuple #[]) ∧ ∃ us', us'.Perm us ∧ us'.Pairwise (fun a b => ¬ cfU b a < 0) ∧ HoldsU w' gb us' ∧ Kept (fun x => x ≠ gb) w w' := by
  have hs : us.toArray.size = n := by simpa using hn.symm
  have hH := holdsU_to h hf
  have hc := AnyQ.slices_SortFunc (ρ := laySortU_ren) laySortU 2 Try.isAgg24 Try.sizeOf24 encU encU_len (fun x v hv => by simp only [encU, List.mem_cons, List.not_mem_nil, or_false] at hv; rcases hv with rfl | rfl <;> rfl) cfU cfU_swo 41 #[] gb 0 cap us.toArray w (fun args w => rfl) (fun m os dk _ x y => byPlace_any x y _) hH hb (by omega)
  rw [hs] at hc
  refine hc.mono ?_
  rintro e w' ⟨he, d', m, os, hp, hso, rfl⟩
  have hd' : d'.size = n := by rw [hp.1, hs]
  refine ⟨he, d'.toList, ?_, ?_, holdsU_from (holdsK_sortWorldK_c encU 2 w gb 0 us.toArray d' m os hH hb (by rw [hd', hs])), ⟨rfl, rfl, rfl, size_sortWorldK_c encU 2 w gb 0 m d' os, fun k hk hne => sortWorldK_block hk hne⟩⟩
  · have := hp.2.2
    have e1 : d'.extract 0 n = d' := by rw [← hd']; exact Array.extract_size
    have e2 : us.toArray.extract 0 n = us.toArray := by rw [← hs]; exact Array.extract_size
    rw [e1, e2] at this
    simpa using this
  · refine List.pairwise_iff_getElem.2 fun i j hi hj hij => ?_
    have h1 := hso i j (Nat.zero_le _) hij (by simpa [hd'] using hj)
    rw [getElem!_pos d' j (by simpa using hj), getElem!_pos d' i (by simpa using hi)] at h1
    have := of_decide_eq_false h1
    simpa using this
end
end Go.Proofs.Ytffmipmkbbholaa
