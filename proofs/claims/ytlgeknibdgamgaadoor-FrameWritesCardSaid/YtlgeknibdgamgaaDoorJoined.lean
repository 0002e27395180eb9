/-
  Parts laid behind one another, if they aren't too many.
-/
import Derived.Test.YtlgeknibdgamgaaDoorSum
namespace Go.Proofs.YtlgeknibdgamgaaDoor
open Go.RowKit

theorem RBB.below {w w' : World} {B : Nat} {A : Option Addr} {ls : List (List UInt8)} (h : RBB w B A ls) (hb : Below B w w') : RBB w' B A ls := fun k l hk => by
  obtain ⟨ad, A', c, e, hlt, hc, hr, hl⟩ := h k l hk
  exact ⟨ad, A', c, e, hlt, (hb.cell (by rw [add_block]; exact hlt)).trans hc, hr.below hb, hl⟩
theorem le_sum (l : List Nat) (n : Nat) (h : n ∈ l) : n ≤ l.sum := by
  induction l with
  | nil => cases h
  | cons x l ih =>
    rw [List.sum_cons]
    cases List.mem_cons.1 h with
    | inl e => subst e; omega
    | inr e => have := ih e; omega
theorem RBB.wide {w : World} {B B' : Nat} {A : Option Addr} {ls : List (List UInt8)} (h : RBB w B A ls) (hB : B ≤ B') : RBB w B' A ls := fun k l hk => by
  obtain ⟨ad, A', c, e, hlt, hc, hr, hl⟩ := h k l hk
  exact ⟨ad, A', c, e, Nat.lt_of_lt_of_le hlt hB, hc, hr.wide hB, hl⟩
theorem RBB.all_le {w : World} {B : Nat} {A : Option Addr} {ls : List (List UInt8)} (_h : RBB w B A ls) (hl : ls.flatten.length ≤ 65536) : ∀ l ∈ ls, l.length ≤ 65536 := by
  intro l hm
  have : l.length ≤ ls.flatten.length := by
    rw [List.length_flatten]
    exact le_sum _ _ (List.mem_map_of_mem hm)
  omega
theorem flatten_take (ls : List (List UInt8)) (k : Nat) (h : k < ls.length) : (ls.take (k + 1)).flatten = (ls.take k).flatten ++ ls[k] := by
  rw [List.take_succ_eq_append_getElem h, List.flatten_append]
  simp

set_option maxRecDepth 20000 in
set_option maxHeartbeats 1000000 in
theorem joined_any (A : Option Addr) (c : Nat) (ls : List (List UInt8)) (w : World) (hr : RBB w w.heap.size A ls) :
    Calls Tryd.prog 11 #[.slice A ls.length c] w fun e w' => ∃ v ok, e = .returned (.tuple #[v, .bool ok]) ∧ Below w.heap.size w w' ∧ (ok = true → Own w' w.heap.size v ls.flatten ∧ ls.flatten.length ≤ 65536 ∧ ls.length ≤ 1000) := by
  have Hr := Lib.hid hr
  clear hr
  go_enter Tryd.func11, Tryd.ntmps11
  go_wp2_with fail
  go_loopw [4, 5] (fun b i wr => ∃ k : Nat, k ≤ ls.length ∧ i = .int .i64 (k : Int) ∧ Hid (Own wr w.heap.size b (ls.take k).flatten) ∧ Hid ((ls.take k).flatten.length ≤ 65536) ∧ Hid (Below w.heap.size w wr) ∧ Hid (0 < k → ls.length ≤ 1000)) (fun _ i _ => (ls.length - intOf i).toNat)
  case atStart => exact ⟨0, by omega, rfl, Own.nil _ _, (by simp : ((ls.take 0).flatten : List UInt8).length ≤ 65536), Below.refl _ _, (by omega : 0 < 0 → _)⟩
  case round =>
    obtain ⟨k, hk, rfl, hown, hlen, hbel, hth⟩ := hrel
    by_cases hkl : k < ls.length
    · by_cases h1000 : 1000 < ls.length
      · have h1000' : (1000 : Int) < (ls.length : Int) := by omega
        go_wp2_with fail
        go_ret2
        exact ⟨_, false, rfl, hbel.out, fun h => by cases h⟩
      · have h1000' : (ls.length : Int) ≤ 1000 := by omega
        have Hft := Lib.hid (flatten_take ls k hkl)
        generalize (ls.take k).flatten = acc at hown hlen Hft
        obtain ⟨ad, A', c', rfl, hb, hc, hrb, hcap⟩ := (Hr.out.below hbel.out) k _ (List.getElem?_eq_getElem hkl)
        obtain ⟨P, cp, rfl, hcp, hrp, _⟩ := hown.out.rb
        have Hrb := Lib.hid hrb
        have hlen' : ((acc.length : Nat) : Int) ≤ 65536 := by have := hlen.out; omega
        clear hrb hrp
        by_cases hbig : 65536 - (acc.length : Int) < (ls[k].length : Int)
        · go_wp2_with fail
          go_ret2
          exact ⟨_, false, rfl, hbel.out, fun h => by cases h⟩
        · have Hlen2 : Hid (acc.length + ls[k].length ≤ 140737488355327) := by show _ ≤ _; omega
          have Hlen3 : Hid (acc.length + ls[k].length ≤ 65536) := by show _ ≤ _; omega
          have Hsz : Hid (w.heap.size ≤ wr.heap.size) := hbel.out.size
          go_wp2_with (at_builtin; refine app_bytes rfl (.tmp 26) (.tmp 30) rfl w.heap.size _ _ rfl hown.out _ A' ls[k].length c' ls[k] rfl rfl Hrb.out Hlen2.out Hsz.out ?_; intro v1 w1 hown1 hbel1 _)
          exact ⟨⟨k + 1, by omega, by go_num, by show Own _ _ _ _; rw [Hft.out]; exact hown1, by show _ ≤ _; rw [Hft.out, List.length_append]; exact Hlen3.out, hbel.out.trans hbel1, fun _ => by omega⟩, by simp [intOf]; omega⟩
    · go_wp2_with fail
      go_ret2
      obtain rfl : k = ls.length := by omega
      refine ⟨_, true, rfl, hbel.out, fun _ => ?_⟩
      have h1 := hown.out
      have h2 := hlen.out
      have h3 := hth.out
      rw [List.take_length] at h1 h2
      exact ⟨h1, h2, by omega⟩
end Go.Proofs.YtlgeknibdgamgaaDoor
