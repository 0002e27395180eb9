/-
  Write walked.
-/
import Derived.Test.YtabhpgacnenacaaDoorSh5
import Derived.Test.YtabhpgacnenacaaDoorShD
namespace Go.Proofs.YtabhpgacnenacaaDoor
open Go.RowKit

/-- THE SLICE AT A READS AS l, below B, and not in block g -/
def RN (w : World) (B g : Nat) (A : Option Addr) (l : List UInt8) : Prop :=
  ∀ k x, l[k]? = some x → ∃ b o, A = some ⟨b, o, none⟩ ∧ b < B ∧ b ≠ g ∧ w.cell? ⟨b, o + k, none⟩ = some (bv x)
section
variable {w w' : World} {B g : Nat} {A : Option Addr} {l : List UInt8}
theorem RN.rx (h : RN w B g A l) : RX w B g A l := fun k x hx => by
  obtain ⟨b, o, e, h1, h2, h3⟩ := h k x hx
  exact ⟨b, o, e, h1, .inl h2, h3⟩
theorem RN.rb (h : RN w B g A l) : RB w B A l := h.rx.rb
theorem RN.nil (w : World) (B g : Nat) (A : Option Addr) : RN w B g A [] := fun k x h => by simp at h
theorem RN.take (h : RN w B g A l) (n : Nat) : RN w B g A (l.take n) := fun k x hx => by
  rw [List.getElem?_take] at hx
  split at hx
  · exact h k x hx
  · cases hx
theorem RN.cutFlat {b o : Nat} (h : RN w B g (some ⟨b, o, none⟩) l) (n : Nat) : RN w B g (some ⟨b, o + n, none⟩) (l.drop n) := fun k x hx => by
  rw [List.getElem?_drop] at hx
  obtain ⟨b', o', e, h1, h2, h3⟩ := h _ _ hx
  cases e
  exact ⟨b, o + n, rfl, h1, h2, by rw [Nat.add_assoc]; exact h3⟩
theorem RN.kept (h : RN w B g A l) (hk : Kept (fun b => b ≠ g) w w') (hB : B ≤ w.heap.size) : RN w' B g A l := fun k x hx => by
  obtain ⟨b, o, e, h1, h2, h3⟩ := h k x hx
  exact ⟨b, o, e, h1, h2, (World.cell?_of_block (w := w) (hk.block b (Nat.lt_of_lt_of_le h1 hB) h2)).trans h3⟩
theorem RN.below (h : RN w B g A l) (hb : Below B w w') : RN w' B g A l := fun k x hx => by
  obtain ⟨b, o, e, h1, h2, h3⟩ := h k x hx
  exact ⟨b, o, e, h1, h2, (hb.cell (p := ⟨b, o + k, none⟩) h1).trans h3⟩
theorem RN.wide {B' : Nat} (h : RN w B g A l) (hB : B ≤ B') : RN w B' g A l := fun k x hx => by
  obtain ⟨b, o, e, h1, h2, h3⟩ := h k x hx
  exact ⟨b, o, e, Nat.lt_of_lt_of_le h1 hB, h2, h3⟩
theorem NT.kept (h : NT w) (hk : Kept (fun b => b ≠ g) w w') (hg : 0 ≠ g) : NT w' :=
  ⟨fun r x hx => (World.cell?_of_block (w := w) (hk.block _ h.2 hg)).trans (h.1 r x hx), Nat.lt_of_lt_of_le h.2 hk.size⟩
end
/-- Write under way: what it was given is read still -/
structure WrS (w wr : World) (g n : Nat) (v : W8) (rest : List UInt8) (A : Option Addr) (l : List UInt8) : Prop where
  c : Cells wr g 51 (dgC v n rest)
  r : RN wr w.heap.size g A l
  k : Kept (fun b => b ≠ g) w wr
theorem WrS.step {w wr w' : World} {g n n' : Nat} {v v' : W8} {rest rest' : List UInt8} {A : Option Addr} {l : List UInt8} (h : WrS w wr g n v rest A l) (hc : Cells w' g 51 (dgC v' n' rest')) (hk : Kept (fun b => b ≠ g) wr w') : WrS w w' g n' v' rest' A l :=
  ⟨hc, h.r.kept hk h.k.size, h.k.trans (hk.mono fun b _ q => q)⟩
theorem kept_set (w : World) (g i : Nat) (u : Value) : Kept (fun b => b ≠ g) w (w.setCell ⟨g, i, none⟩ u) := (Kept.refl _ _).setCell (by simp) _
theorem cells_n {w : World} {g n : Nat} {v : W8} {rest : List UInt8} {t : TypeId} (h : Cells w g t (dgC v n rest)) (n' : Nat) : Cells (w.setCell ⟨g, 8, none⟩ (.int .i64 (n' : Int))) g t (dgC v n' rest) := by
  have := h.set 8 (.int .i64 (n' : Int))
  simp only [dgC, v8, List.cons_append, List.nil_append, List.set_cons_zero, List.set_cons_succ] at this
  exact this
section
set_option maxRecDepth 100000
set_option maxHeartbeats 1000000
theorem start_any (w : World) (u : W8) (hu : u = start8) : Calls Tryd.prog 22 #[] w fun e w' => e = .returned (.agg #[.int .u32 (nv u.a), .int .u32 (nv u.b), .int .u32 (nv u.c), .int .u32 (nv u.d), .int .u32 (nv u.e), .int .u32 (nv u.f), .int .u32 (nv u.g), .int .u32 (nv u.h)]) ∧ Below w.heap.size w w' := by
  have e : (Value.agg #[.int .u32 (nv u.a), .int .u32 (nv u.b), .int .u32 (nv u.c), .int .u32 (nv u.d), .int .u32 (nv u.e), .int .u32 (nv u.f), .int .u32 (nv u.g), .int .u32 (nv u.h)]) = .agg #[.int .u32 1779033703, .int .u32 3144134277, .int .u32 1013904242, .int .u32 2773480762, .int .u32 1359893119, .int .u32 2600822924, .int .u32 528734635, .int .u32 1541459225] := by rw [hu]; rfl
  rw [e]
  clear e hu
  go_enter Tryd.func22, Tryd.ntmps22
  go_wp2_with fail
  refine bodyPost_ret (v := .agg #[.int .u32 1779033703, .int .u32 3144134277, .int .u32 1013904242, .int .u32 2773480762, .int .u32 1359893119, .int .u32 2600822924, .int .u32 528734635, .int .u32 1541459225]) (res_row rfl _ rfl (Cells.new w _ 48) (fun _ => by kernel_rfl) (fun _ => by kernel_rfl)) rfl ⟨rfl, ?_⟩
  exact (Below.refl _ _).alloc (Nat.le_refl _) _
end
end Go.Proofs.YtabhpgacnenacaaDoor
