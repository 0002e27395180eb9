/-
  The ring is gone round, no record being looked at (Truncate).
-/
import Derived.Test.YtkjogkmdldplgaaDoorKLgFront
import Derived.Test.YtkjogkmdldplgaaDoorKLgSettle
namespace Go.Proofs.YtkjogkmdldplgaaDoor
open Go.RowKit

structure InRing (m : List UInt8) (R : Nat) (b : Bd) (rs : List (List UInt8)) : Prop where
  cnt : b.next = b.first + rs.length
  nx : b.next ≤ 1099511627776
  at_ : b.at_ < R
  used : b.used ≤ R
  ring : cyc m R b.at_ b.used = enc rs
theorem Holds.inRing {m : List UInt8} {b : Bd} {rs : List (List UInt8)} (h : Holds m b rs) : InRing m (m.length - 57) b rs := ⟨h.cnt, h.nx, h.at_, h.used, h.ring⟩
theorem InRing.ok {m : List UInt8} {R : Nat} {b : Bd} {rs : List (List UInt8)} (h : InRing m R b rs) (hR : R ≤ 67108864) : BdOk b := ⟨by have := h.cnt; omega, h.nx, by have := h.at_; omega, by have := h.used; omega⟩
theorem InRing.used_eq {m : List UInt8} {R : Nat} {b : Bd} {rs : List (List UInt8)} (h : InRing m R b rs) : b.used = (enc rs).length := by rw [← h.ring, cyc_length]
theorem InRing.tail {m : List UInt8} {R : Nat} {b : Bd} {r : List UInt8} {rs : List (List UInt8)} (h : InRing m R b (r :: rs)) : InRing m R (shorterB b (encR r).length R) rs := by
  have h1 := h.cnt
  have h2 := h.used_eq
  have h3 := h.at_
  have h4 := h.used
  rw [enc_cons, List.length_append] at h2
  refine ⟨by show b.next = b.first + 1 + rs.length; rw [h1, List.length_cons]; omega, h.nx, Nat.mod_lt _ (by omega), by show b.used - _ ≤ R; omega, ?_⟩
  show cyc m R ((b.at_ + (encR r).length) % R) (b.used - (encR r).length) = enc rs
  rw [cyc_mod, ← cyc_drop m R b.at_ (encR r).length (b.used - (encR r).length), show (encR r).length + (b.used - (encR r).length) = b.used by omega, h.ring, enc_cons, List.drop_left']
  rfl
theorem InRing.front {m : List UInt8} {R : Nat} {b : Bd} {r : List UInt8} {rs : List (List UInt8)} (h : InRing m R b (r :: rs)) : cyc m R b.at_ b.used = encR r ++ enc rs ∧ cyc m R (b.at_ + (numBytes r.length).length) r.length = r ∧ (numBytes r.length).length + r.length ≤ b.used := by
  have h2 := h.used_eq
  have h1 := h.ring
  rw [enc_cons] at h1 h2
  rw [List.length_append, encR_length] at h2
  refine ⟨h1, ?_, by omega⟩
  have e : b.used = (numBytes r.length).length + (r.length + (enc rs).length) := by omega
  rw [e, cyc_add, cyc_add, encR, List.append_assoc] at h1
  have h5 := List.append_inj h1 (cyc_length _ _ _ _)
  exact (List.append_inj h5.2 (cyc_length _ _ _ _)).1
def advB (b : Bd) (R : Nat) (rs : List (List UInt8)) : Bd := rs.foldl (fun b r => shorterB b (encR r).length R) b
/-- the state of the walk -/
structure WalkSt (w wr : World) (K : Nat → Prop) (m : List UInt8) (R up : Nat) (b : Bd) (rs : List (List UInt8)) (j : Nat) : Prop where
  le : j ≤ rs.length
  box : Cells wr w.heap.size 62 (bdL (advB b R (rs.take j)))
  out : Cells wr (w.heap.size + 1) 62 [.int .u64 0, .int .u64 0, .int .i64 0, .int .i64 0]
  inr : InRing m R (advB b R (rs.take j)) (rs.drop j)
  first : (advB b R (rs.take j)).first = b.first + j
  next : (advB b R (rs.take j)).next = b.next
  kept : Kept K w wr
  upto : ∀ i, i < j → b.first + i ≤ up
def boxFirst (wr : World) (g : Nat) : Nat := match wr.cell? ⟨g, 0, none⟩ with
  | some v => (intOf v).toNat
  | none => 0
theorem adv_step {b : Bd} {R j : Nat} {rs : List (List UInt8)} (h : j < rs.length) : advB b R (rs.take (j + 1)) = shorterB (advB b R (rs.take j)) (encR rs[j]).length R := by
  unfold advB
  rw [List.take_succ_eq_append_getElem h, List.foldl_append]
  rfl
/-- a round -/
theorem WalkSt.step {w wr w2 : World} {K : Nat → Prop} {m : List UInt8} {R up j : Nat} {b : Bd} {rs : List (List UInt8)} (h : WalkSt w wr K m R up b rs j) (hj : j < rs.length) (hup : b.first + j ≤ up) (hk : Kept K w w2)
    (hb : Cells w2 w.heap.size 62 (bdL (shorterB (advB b R (rs.take j)) (encR rs[j]).length R))) (ho : w2.heap[w.heap.size + 1]? = wr.heap[w.heap.size + 1]?) : WalkSt w w2 K m R up b rs (j + 1) := by
  have e := adv_step (b := b) (R := R) hj
  have hi := h.inr
  rw [List.drop_eq_getElem_cons hj] at hi
  refine ⟨hj, by rw [e]; exact hb, h.out.move ho, by rw [e]; exact hi.tail, ?_, ?_, hk, fun i hi => ?_⟩
  · rw [e]; show (advB b R (rs.take j)).first + 1 = _; rw [h.first]; omega
  · rw [e]; exact h.next
  · by_cases q : i < j
    · exact h.upto i q
    · have : i = j := by omega
      rw [this]; exact hup
end Go.Proofs.YtkjogkmdldplgaaDoor
