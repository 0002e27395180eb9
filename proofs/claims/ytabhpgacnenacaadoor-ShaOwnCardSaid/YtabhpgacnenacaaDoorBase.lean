/-
  Words for memory: bytes that a slice reads as, slices of bytes that the call owns, and append, make, copy on them. Own work over the library's laws.
-/
import Derived.Test.YtabhpgacnenacaaDoorProg
import Derived.WalkKit
import Derived.WalkSpells
import Derived.WalkLawsBesides
import Derived.Lib.Hide
import Derived.Lib.SliceRun
import Derived.Deep.Draws
import Derived.Maps.AppendAt
import Derived.Deep.AppendLies
import Derived.Laws.CopyOwn
namespace Go.Proofs.YtabhpgacnenacaaDoor
open Go.RowKit

/-- a byte as a value; bytes as values -/
def bv (x : UInt8) : Value := .int .u8 (x.toNat : Int)
def bvs (l : List UInt8) : List Value := l.map bv
theorem bvs_length (l : List UInt8) : (bvs l).length = l.length := by simp [bvs]
theorem bvs_append (l r : List UInt8) : bvs (l ++ r) = bvs l ++ bvs r := by simp [bvs]
theorem bvs_one (l : List UInt8) : ∀ u ∈ bvs l, u.oneCell' = true := by
  intro u hu
  simp only [bvs, List.mem_map] at hu
  obtain ⟨x, _, rfl⟩ := hu
  rfl
theorem bv_eq (x : UInt8) : bv x = .int .u8 (x.toNat : Int) := rfl

/-- THE SLICE AT A READS AS l, and lies below block B. -/
def RB (w : World) (B : Nat) (A : Option Addr) (l : List UInt8) : Prop :=
  ∀ k x, l[k]? = some x → ∃ ad, A = some ad ∧ ad.block < B ∧ w.cell? (ad.add k) = some (bv x)

/-- THE CALL OWNS v, which reads as l, in a block from base on. -/
def Own (w : World) (base : Nat) (v : Value) (l : List UInt8) : Prop := w.ownsRow base 5 1 v l.length (bvs l)

theorem add_block (a : Addr) (n : Nat) : (a.add n).block = a.block := by unfold Addr.add; split <;> rfl
theorem add_add' (a : Addr) (i j : Nat) : (a.add i).add j = a.add (i + j) := by
  unfold Addr.add
  by_cases hi : i = 0 <;> by_cases hj : j = 0 <;> simp [hi, hj, Nat.add_assoc]

section
variable {w w' : World} {B B' base : Nat} {A : Option Addr} {l r : List UInt8} {v : Value}
theorem RB.nil (w : World) (B : Nat) (A : Option Addr) : RB w B A [] := fun k x h => by simp at h
theorem RB.move (h : RB w B A l) (hk : ∀ p : Addr, p.block < B → w'.cell? p = w.cell? p) (hB : B ≤ B') : RB w' B' A l := fun k x hx => by
  obtain ⟨ad, e, hb, hc⟩ := h k x hx
  exact ⟨ad, e, Nat.lt_of_lt_of_le hb hB, (hk _ (by rw [add_block]; exact hb)).trans hc⟩
theorem RB.below (h : RB w B A l) (hb : Below B w w') : RB w' B A l := h.move (fun _ hp => hb.cell hp) (Nat.le_refl _)
theorem RB.wide (h : RB w B A l) (hB : B ≤ B') : RB w B' A l := h.move (fun _ _ => rfl) hB
theorem RB.alloc (h : RB w B A l) (hB : B ≤ w.heap.size) (o : Obj) : RB (w.alloc o) B A l := h.move (fun p hp => World.cell?_alloc_lt w o p (by omega)) (Nat.le_refl _)
theorem RB.drew (h : RB w B A l) : RB w.drew B A l := h
theorem RB.drewN (h : RB w B A l) (n : Nat) : RB (w.drewN n) B A l := h
theorem RB.grown (h : RB w B A l) {row : Option Nat} (hg : w.grownBy w' row) (hB : B ≤ w.heap.size) (hr : ∀ g, row = some g → B ≤ g) : RB w' B A l :=
  h.move (fun p hp => World.cell?_of_block (hg.block p.block (by omega) (fun e => by have := hr _ e.symm; omega))) (Nat.le_refl _)
theorem RB.take (h : RB w B A l) (n : Nat) : RB w B A (l.take n) := fun k x hx => by
  rw [List.getElem?_take] at hx
  split at hx
  · exact h k x hx
  · cases hx
/-- where a slice begins that is cut at k: the model's own word -/
def cutAt (A : Option Addr) (cap k : Nat) : Option Addr := if cap = k then A else A.map (·.add k)
theorem RB.cut (h : RB w B A l) {cap k : Nat} (hc : l.length ≤ cap) : RB w B (cutAt A cap k) (l.drop k) := fun j x hx => by
  rw [List.getElem?_drop] at hx
  have hlt : k + j < l.length := (List.getElem?_eq_some_iff.1 hx).1
  obtain ⟨ad, rfl, hb, hcell⟩ := h _ _ hx
  unfold cutAt
  rw [if_neg (by omega)]
  exact ⟨ad.add k, rfl, by rw [add_block]; exact hb, by rw [add_add']; exact hcell⟩
theorem RB.at_ (h : RB w B A l) {k : Nat} (hk : k < l.length) : ∃ ad, A = some ad ∧ ad.block < B ∧ w.cell? (ad.add k) = some (.int .u8 (l[k].toNat : Int)) :=
  h k l[k] (List.getElem?_eq_getElem hk)
theorem add_flat (b o n : Nat) : (⟨b, o, none⟩ : Addr).add n = ⟨b, o + n, none⟩ := by unfold Addr.add; split <;> simp_all
/-- where a slice with something in it lies: a plain place -/
theorem RB.flat (h : RB w B A l) (h0 : 0 < l.length) : ∃ b o, A = some ⟨b, o, none⟩ ∧ b < B := by
  obtain ⟨ad, rfl, hb, hc⟩ := h.at_ h0
  obtain ⟨b, o, s⟩ := ad
  have hs : s = none := by
    have := World.cell?_spot hc
    simpa [Addr.add] using this
  subst hs
  exact ⟨b, o, rfl, hb⟩
theorem RB.cutFlat {b o : Nat} (h : RB w B (some ⟨b, o, none⟩) l) (k : Nat) : RB w B (some ⟨b, o + k, none⟩) (l.drop k) := fun j x hx => by
  rw [List.getElem?_drop] at hx
  obtain ⟨ad, e, hb, hc⟩ := h _ _ hx
  cases e
  refine ⟨_, rfl, hb, ?_⟩
  rw [add_flat] at hc ⊢
  rw [Nat.add_assoc]
  exact hc
theorem RB.new (w : World) (cs : Array Value) (t : TypeId) (l : List UInt8) (h : cs.toList = bvs l) : RB (w.alloc (.cells cs t)) (w.heap.size + 1) (some ⟨w.heap.size, 0, none⟩) l := fun k x hx => by
  refine ⟨_, rfl, by show w.heap.size < _; omega, ?_⟩
  have e : (⟨w.heap.size, 0, none⟩ : Addr).add k = ⟨w.heap.size, k, none⟩ := by unfold Addr.add; split <;> simp_all
  rw [e, World.cell?_alloc_new, ← Array.getElem?_toList, h]
  simp [bvs, hx]

theorem Own.nil (w : World) (base : Nat) : Own w base (.slice none 0 0) [] := World.ownsRow_nil w base _ _
theorem Own.rb (h : Own w base v l) : ∃ A c, v = .slice A l.length c ∧ l.length ≤ c ∧ RB w w.heap.size A l ∧ (A = none → c = 0) := by
  rcases h.2 with ⟨rfl, h0⟩ | ⟨g, cap, cur, rfl, hb, hg, hn, hm, hs, ht⟩
  · have : l = [] := List.eq_nil_of_length_eq_zero h0
    subst this
    exact ⟨none, 0, rfl, Nat.le_refl _, RB.nil _ _ _, fun _ => rfl⟩
  · refine ⟨_, cap, rfl, hn, fun k x hx => ?_, fun e => by cases e⟩
    refine ⟨_, rfl, (Array.getElem?_eq_some_iff.1 hg).1, World.ownsRow.cells (e := 5) (size := 1) h rfl k (bv x) (by simp [bvs, hx])⟩
theorem Own.made (w : World) (base : Nat) (h : base ≤ w.heap.size) : Own (w.alloc (.cells #[] 5)) base (.slice (some ⟨w.heap.size, 0, none⟩) 0 0) [] :=
  World.ownsRow_made w #[] 0 h (by simp [maxLen]) (by simp)
theorem Own.below (h : Own w base v l) (hb : Below w.heap.size w w') : Own w' base v l := by
  refine World.ownsRow.kept (row := none) h ⟨hb.os, hb.tape, hb.output, hb.size, fun k hk _ => hb.block k hk⟩ ?_
  cases hv : v.ownBlock <;> simp
theorem Own.alloc (h : Own w base v l) (o : Obj) : Own (w.alloc o) base v l := World.ownsRow.alloc h o
theorem Own.drew (h : Own w base v l) : Own w.drew base v l := h
theorem Own.wide (h : Own w base v l) (hb : B ≤ base) : Own w B v l := by
  refine ⟨h.1, ?_⟩
  rcases h.2 with h | ⟨g, cap, cur, hv, hg, r⟩
  · exact .inl h
  · exact .inr ⟨g, cap, cur, hv, Nat.le_trans hb hg, r⟩
/-- what an owned slice with something in it looks like -/
theorem Own.form (h : Own w base v l) (h0 : 0 < l.length) : ∃ g cap, v = .slice (some ⟨g, 0, none⟩) l.length cap ∧ base ≤ g ∧ g < w.heap.size ∧ l.length ≤ cap ∧
    (∀ i (hi : i < l.length), w.cell? ⟨g, i, none⟩ = some (.int .u8 (l[i].toNat : Int))) ∧ ∀ i, w.frozen? ⟨g, i, none⟩ = false := by
  rcases h.2 with ⟨_, h1⟩ | ⟨g, cap, cur, rfl, hb, hg, hn, hm, hs, ht⟩
  · omega
  · refine ⟨g, cap, rfl, hb, (Array.getElem?_eq_some_iff.1 hg).1, hn, fun i hi => ?_, fun i => by simp [World.frozen?, hg]⟩
    have := World.ownsRow.cells (e := 5) (size := 1) h rfl i (bv l[i]) (by simp [bvs, hi])
    rw [show (⟨g, 0, none⟩ : Addr).add i = ⟨g, i, none⟩ from by unfold Addr.add; split <;> simp_all] at this
    exact this
theorem Own.ge (h : Own w base v l) : ∀ k, v.ownBlock = some k → base ≤ k := fun k hk => (World.ownsRow.lt h k hk).1
end

/-- THE BLOCK g IS JUST THE BYTES l, none of them frozen. -/
def Blk (w : World) (g : Nat) (l : List UInt8) : Prop := w.heap[g]? = some (.cells (bvs l).toArray 5 (0, 0))
section
variable {w w' : World} {g : Nat} {l : List UInt8}
theorem Blk.lt (h : Blk w g l) : g < w.heap.size := by
  rcases Nat.lt_or_ge g w.heap.size with hlt | hge
  · exact hlt
  · unfold Blk at h; rw [Array.getElem?_eq_none hge] at h; cases h
theorem Blk.cell (h : Blk w g l) {i : Nat} (hi : i < l.length) : w.cell? ⟨g, i, none⟩ = some (.int .u8 (l[i].toNat : Int)) := by
  rw [cell_of_row w g i _ _ (0, 0) h]
  simp [bvs, hi, bv]
theorem Blk.frozen (h : Blk w g l) (i : Nat) : w.frozen? ⟨g, i, none⟩ = false := by
  unfold Blk at h
  simp [World.frozen?, h]
theorem Blk.below {B : Nat} (h : Blk w g l) (hb : Below B w w') (hg : g < B) : Blk w' g l := (hb.block g hg).trans h
theorem Blk.alloc (h : Blk w g l) (o : Obj) : Blk (w.alloc o) g l := (Below.heap_alloc w o g h.lt).trans h
theorem Blk.drew (h : Blk w g l) : Blk w.drew g l := h
theorem Blk.set (h : Blk w g l) (i : Nat) (x : UInt8) : Blk (w.setCell ⟨g, i, none⟩ (.int .u8 (x.toNat : Int))) g (l.set i x) := by
  unfold Blk at h ⊢
  simp only [World.setCell, Array.getElem?_modify, h, if_true, Option.map_some]
  congr 2
  apply Array.toList_inj.1
  simp [bvs, List.map_set, bv]
theorem Blk.rb (h : Blk w g l) (off : Nat) : RB w (g + 1) (some ⟨g, off, none⟩) (l.drop off) := fun k x hx => by
  rw [List.getElem?_drop] at hx
  have hlt : off + k < l.length := (List.getElem?_eq_some_iff.1 hx).1
  refine ⟨_, rfl, by show g < g + 1; omega, ?_⟩
  have e : (⟨g, off, none⟩ : Addr).add k = ⟨g, off + k, none⟩ := by unfold Addr.add; split <;> simp_all
  rw [e, h.cell hlt]
  have : l[off + k] = x := by rw [List.getElem?_eq_getElem hlt] at hx; exact Option.some.inj hx
  rw [this]
  rfl
theorem Blk.own (h : Blk w g l) {base : Nat} (hb : base ≤ g) (hl : l.length ≤ 140737488355327) : Own w base (.slice (some ⟨g, 0, none⟩) l.length l.length) l :=
  ⟨by simp [bvs], .inr ⟨g, l.length, _, rfl, hb, h, Nat.le_refl _, by simp only [maxLen]; omega, by simp [bvs], by rw [Nat.mul_one]; exact List.take_of_length_le (by simp [bvs])⟩⟩
end

theorem info8 : (Tryd.prog.info? 5).map (fun i => (i.zero, i.size, i.bytes)) = some (some (.int .u8 0), 1, 1) := by kernel_rfl

/-- append(v, x...): v the call's own; x any slice that reads as r. -/
theorem app_bytes {w : World} {ops : Array Oper} {rest : List Oper} {o : Oper} {a : Act} {Q : Exit → Act → World → Prop} (hgd : o.guard = none) (s x : Operand)
    (ho : o.op = .call { callee := .builtin .append, args := #[s, x], argTypes := #[24, 24] })
    (base : Nat) (v : Value) (l : List UInt8) (hs : a.eval s = v) (hown : Own w base v l)
    (B : Nat) (A : Option Addr) (m c : Nat) (r : List UInt8) (hx : a.eval x = .slice A m c) (hm : m = r.length) (hr : RB w B A r)
    (hlen : l.length + r.length ≤ 140737488355327) (hbase : base ≤ w.heap.size)
    (h : ∀ v' w', Own w' base v' (l ++ r) → Below base w w' → w.grownBy w' v.ownBlock → wpList Tryd.prog ops Q rest (a.put o.dst v') w') :
    wpList Tryd.prog ops Q (o :: rest) a w := by
  subst hm
  obtain ⟨i0, hi0, hz0, hz1, hz2⟩ := info_parts info8
  refine wpList_plain hgd fun K hK => ?_
  have run : ∃ v' w', (Builtin.append_ #[24, 24] o.type #[v, .slice A r.length c]).run Tryd.prog w = .ok v' w' ∧ Own w' base v' (l ++ r) ∧ w.grownBy w' v.ownBlock ∧ (v'.ownBlock = v.ownBlock ∨ v'.ownBlock = some w.heap.size) := by
    by_cases h0 : r.length = 0
    · obtain rfl : r = [] := List.eq_nil_of_length_eq_zero h0
      refine ⟨v, w, ?_, by simpa [Own] using hown, World.grownBy.refl w _, .inl rfl⟩
      rcases hown.2 with ⟨rfl, _⟩ | ⟨g, cap, cur, rfl, _, _, hnc, _⟩
      · cases A <;> simp [Builtin.append_, run_underlying Tryd.underlying24, sizeOf, typeInfo, hi0, Builtin.lenOf, Builtin.firstCells, loadCells, loadCellsFrom]
      · cases A <;> simp [Builtin.append_, run_underlying Tryd.underlying24, sizeOf, typeInfo, hi0, Builtin.lenOf, Builtin.firstCells, hnc, storeCells, loadCells, loadCellsFrom]
    · have hr0 : 0 < r.length := by omega
      obtain ⟨ad, rfl, _, _⟩ := hr.at_ hr0
      obtain ⟨v', w', hrun, h2, h3, _, h5⟩ := run_append_own_at (P := Tryd.prog) w base 24 o.type 5 i0 (.int .u8 0) 1 1 Tryd.underlying24 hi0 hz0 hz1 hz2 rfl (by omega) v l.length (bvs l) hown ad r.length c (bvs r)
        (by simp [bvs]) (fun j u hu => by
          simp only [bvs, List.getElem?_map, Option.map_eq_some_iff] at hu
          obtain ⟨y, hy, rfl⟩ := hu
          obtain ⟨ad', e, _, hc⟩ := hr j y hy
          cases e
          exact hc) (bvs_one r) (by simp only [maxLen]; omega) (by omega) hbase
      exact ⟨v', w', hrun, by simpa [Own, bvs] using h2, h3, h5⟩
  obtain ⟨v', w', hrun, h2, h3, h4⟩ := run
  unfold Oper.wp execOp
  simp only [ho, resolve, invoke, builtin, Sem.run_bind, Sem.run_pure, Result.andThen_ok, List.map_toArray, List.map_cons, List.map_nil, hs, hx, hrun]
  exact hK _ _ (h v' w' h2 ((Below.refl _ _).grown h3 hbase hown.ge) h3)
end Go.Proofs.YtabhpgacnenacaaDoor
