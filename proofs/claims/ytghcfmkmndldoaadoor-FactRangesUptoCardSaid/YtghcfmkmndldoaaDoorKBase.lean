/-
  Words for memory: bytes that a slice reads as, slices of bytes that the call owns, and append, make, copy on them. Own work over the library's laws.
-/
import Derived.Test.YtghcfmkmndldoaaDoorProg
import Derived.WalkKit
import Derived.WalkSpells
import Derived.WalkLawsBesides
import Derived.Lib.Hide
import Derived.Lib.SliceRun
import Derived.Deep.Draws
import Derived.Maps.AppendAt
import Derived.Deep.AppendLies
import Derived.Laws.CopyOwn
namespace Go.Proofs.YtghcfmkmndldoaaDoor
open Go.RowKit

/-- a byte as a value; bytes as values -/
def bv (x : UInt8) : Value := .int .u8 (x.toNat : Int)
def bvs (l : List UInt8) : List Value := l.map bv
theorem bvs_length (l : List UInt8) : (bvs l).length = l.length := by simp [bvs]
theorem bvs_append (l r : List UInt8) : bvs (l ++ r) = bvs l ++ bvs r := by simp [bvs]
theorem bvs_one (l : List UInt8) : ∀ u ∈ bvs l, u.oneCell' = true := by
  intro u hu
  simp only [bvs, List.mem_map] at hu
  obtain ⟨x, _, rfl⟩ := hu
  rfl
theorem bv_eq (x : UInt8) : bv x = .int .u8 (x.toNat : Int) := rfl

/-- THE SLICE AT A READS AS l, and lies below block B. -/
def RB (w : World) (B : Nat) (A : Option Addr) (l : List UInt8) : Prop :=
  ∀ k x, l[k]? = some x → ∃ ad, A = some ad ∧ ad.block < B ∧ w.cell? (ad.add k) = some (bv x)

/-- THE CALL OWNS v, which reads as l, in a block from base on. -/
def Own (w : World) (base : Nat) (v : Value) (l : List UInt8) : Prop := w.ownsRow base 5 1 v l.length (bvs l)

theorem add_block (a : Addr) (n : Nat) : (a.add n).block = a.block := by unfold Addr.add; split <;> rfl
theorem add_add' (a : Addr) (i j : Nat) : (a.add i).add j = a.add (i + j) := by
  unfold Addr.add
  by_cases hi : i = 0 <;> by_cases hj : j = 0 <;> simp [hi, hj, Nat.add_assoc]

section
variable {w w' : World} {B B' base : Nat} {A : Option Addr} {l r : List UInt8} {v : Value}
theorem RB.nil (w : World) (B : Nat) (A : Option Addr) : RB w B A [] := fun k x h => by simp at h
theorem RB.move (h : RB w B A l) (hk : ∀ p : Addr, p.block < B → w'.cell? p = w.cell? p) (hB : B ≤ B') : RB w' B' A l := fun k x hx => by
  obtain ⟨ad, e, hb, hc⟩ := h k x hx
  exact ⟨ad, e, Nat.lt_of_lt_of_le hb hB, (hk _ (by rw [add_block]; exact hb)).trans hc⟩
theorem RB.below (h : RB w B A l) (hb : Below B w w') : RB w' B A l := h.move (fun _ hp => hb.cell hp) (Nat.le_refl _)
theorem RB.wide (h : RB w B A l) (hB : B ≤ B') : RB w B' A l := h.move (fun _ _ => rfl) hB
theorem RB.alloc (h : RB w B A l) (hB : B ≤ w.heap.size) (o : Obj) : RB (w.alloc o) B A l := h.move (fun p hp => World.cell?_alloc_lt w o p (by omega)) (Nat.le_refl _)
theorem RB.drew (h : RB w B A l) : RB w.drew B A l := h
theorem RB.drewN (h : RB w B A l) (n : Nat) : RB (w.drewN n) B A l := h
theorem RB.grown (h : RB w B A l) {row : Option Nat} (hg : w.grownBy w' row) (hB : B ≤ w.heap.size) (hr : ∀ g, row = some g → B ≤ g) : RB w' B A l :=
  h.move (fun p hp => World.cell?_of_block (hg.block p.block (by omega) (fun e => by have := hr _ e.symm; omega))) (Nat.le_refl _)
theorem RB.take (h : RB w B A l) (n : Nat) : RB w B A (l.take n) := fun k x hx => by
  rw [List.getElem?_take] at hx
  split at hx
  · exact h k x hx
  · cases hx
/-- where a slice begins that is cut at k: the model's own word -/
def cutAt (A : Option Addr) (cap k : Nat) : Option Addr := if cap = k then A else A.map (·.add k)
theorem RB.cut (h : RB w B A l) {cap k : Nat} (hc : l.length ≤ cap) : RB w B (cutAt A cap k) (l.drop k) := fun j x hx => by
  rw [List.getElem?_drop] at hx
  have hlt : k + j < l.length := (List.getElem?_eq_some_iff.1 hx).1
  obtain ⟨ad, rfl, hb, hcell⟩ := h _ _ hx
  unfold cutAt
  rw [if_neg (by omega)]
  exact ⟨ad.add k, rfl, by rw [add_block]; exact hb, by rw [add_add']; exact hcell⟩
theorem RB.at_ (h : RB w B A l) {k : Nat} (hk : k < l.length) : ∃ ad, A = some ad ∧ ad.block < B ∧ w.cell? (ad.add k) = some (.int .u8 (l[k].toNat : Int)) :=
  h k l[k] (List.getElem?_eq_getElem hk)
theorem add_flat (b o n : Nat) : (⟨b, o, none⟩ : Addr).add n = ⟨b, o + n, none⟩ := by unfold Addr.add; split <;> simp_all
/-- where a slice with something in it lies: a plain place -/
theorem RB.flat (h : RB w B A l) (h0 : 0 < l.length) : ∃ b o, A = some ⟨b, o, none⟩ ∧ b < B := by
  obtain ⟨ad, rfl, hb, hc⟩ := h.at_ h0
  obtain ⟨b, o, s⟩ := ad
  have hs : s = none := by
    have := World.cell?_spot hc
    simpa [Addr.add] using this
  subst hs
  exact ⟨b, o, rfl, hb⟩
theorem RB.cutFlat {b o : Nat} (h : RB w B (some ⟨b, o, none⟩) l) (k : Nat) : RB w B (some ⟨b, o + k, none⟩) (l.drop k) := fun j x hx => by
  rw [List.getElem?_drop] at hx
  obtain ⟨ad, e, hb, hc⟩ := h _ _ hx
  cases e
  refine ⟨_, rfl, hb, ?_⟩
  rw [add_flat] at hc ⊢
  rw [Nat.add_assoc]
  exact hc
theorem RB.new (w : World) (cs : Array Value) (t : TypeId) (l : List UInt8) (h : cs.toList = bvs l) : RB (w.alloc (.cells cs t)) (w.heap.size + 1) (some ⟨w.heap.size, 0, none⟩) l := fun k x hx => by
  refine ⟨_, rfl, by show w.heap.size < _; omega, ?_⟩
  have e : (⟨w.heap.size, 0, none⟩ : Addr).add k = ⟨w.heap.size, k, none⟩ := by unfold Addr.add; split <;> simp_all
  rw [e, World.cell?_alloc_new, ← Array.getElem?_toList, h]
  simp [bvs, hx]

theorem Own.nil (w : World) (base : Nat) : Own w base (.slice none 0 0) [] := World.ownsRow_nil w base _ _
theorem Own.rb (h : Own w base v l) : ∃ A c, v = .slice A l.length c ∧ l.length ≤ c ∧ RB w w.heap.size A l ∧ (A = none → c = 0) := by
  rcases h.2 with ⟨rfl, h0⟩ | ⟨g, cap, cur, rfl, hb, hg, hn, hm, hs, ht⟩
  · have : l = [] := List.eq_nil_of_length_eq_zero h0
    subst this
    exact ⟨none, 0, rfl, Nat.le_refl _, RB.nil _ _ _, fun _ => rfl⟩
  · refine ⟨_, cap, rfl, hn, fun k x hx => ?_, fun e => by cases e⟩
    refine ⟨_, rfl, (Array.getElem?_eq_some_iff.1 hg).1, World.ownsRow.cells (e := 5) (size := 1) h rfl k (bv x) (by simp [bvs, hx])⟩
theorem Own.made (w : World) (base : Nat) (h : base ≤ w.heap.size) : Own (w.alloc (.cells #[] 5)) base (.slice (some ⟨w.heap.size, 0, none⟩) 0 0) [] :=
  World.ownsRow_made w #[] 0 h (by simp [maxLen]) (by simp)
theorem Own.below (h : Own w base v l) (hb : Below w.heap.size w w') : Own w' base v l := by
  refine World.ownsRow.kept (row := none) h ⟨hb.os, hb.tape, hb.output, hb.size, fun k hk _ => hb.block k hk⟩ ?_
  cases hv : v.ownBlock <;> simp
theorem Own.alloc (h : Own w base v l) (o : Obj) : Own (w.alloc o) base v l := World.ownsRow.alloc h o
theorem Own.drew (h : Own w base v l) : Own w.drew base v l := h
theorem Own.wide (h : Own w base v l) (hb : B ≤ base) : Own w B v l := by
  refine ⟨h.1, ?_⟩
  rcases h.2 with h | ⟨g, cap, cur, hv, hg, r⟩
  · exact .inl h
  · exact .inr ⟨g, cap, cur, hv, Nat.le_trans hb hg, r⟩
/-- what an owned slice with something in it looks like -/
theorem Own.form (h : Own w base v l) (h0 : 0 < l.length) : ∃ g cap, v = .slice (some ⟨g, 0, none⟩) l.length cap ∧ base ≤ g ∧ g < w.heap.size ∧ l.length ≤ cap ∧
    (∀ i (hi : i < l.length), w.cell? ⟨g, i, none⟩ = some (.int .u8 (l[i].toNat : Int))) ∧ ∀ i, w.frozen? ⟨g, i, none⟩ = false := by
  rcases h.2 with ⟨_, h1⟩ | ⟨g, cap, cur, rfl, hb, hg, hn, hm, hs, ht⟩
  · omega
  · refine ⟨g, cap, rfl, hb, (Array.getElem?_eq_some_iff.1 hg).1, hn, fun i hi => ?_, fun i => by simp [World.frozen?, hg]⟩
    have := World.ownsRow.cells (e := 5) (size := 1) h rfl i (bv l[i]) (by simp [bvs, hi])
    rw [show (⟨g, 0, none⟩ : Addr).add i = ⟨g, i, none⟩ from by unfold Addr.add; split <;> simp_all] at this
    exact this
theorem Own.ge (h : Own w base v l) : ∀ k, v.ownBlock = some k → base ≤ k := fun k hk => (World.ownsRow.lt h k hk).1
end

/-- THE BLOCK g IS JUST THE BYTES l, none of them frozen. -/
def Blk (w : World) (g : Nat) (l : List UInt8) : Prop := w.heap[g]? = some (.cells (bvs l).toArray 5 (0, 0))
section
variable {w w' : World} {g : Nat} {l : List UInt8}
theorem Blk.lt (h : Blk w g l) : g < w.heap.size := by
  rcases Nat.lt_or_ge g w.heap.size with hlt | hge
  · exact hlt
  · unfold Blk at h; rw [Array.getElem?_eq_none hge] at h; cases h
theorem Blk.cell (h : Blk w g l) {i : Nat} (hi : i < l.length) : w.cell? ⟨g, i, none⟩ = some (.int .u8 (l[i].toNat : Int)) := by
  rw [cell_of_row w g i _ _ (0, 0) h]
  simp [bvs, hi, bv]
theorem Blk.frozen (h : Blk w g l) (i : Nat) : w.frozen? ⟨g, i, none⟩ = false := by
  unfold Blk at h
  simp [World.frozen?, h]
theorem Blk.below {B : Nat} (h : Blk w g l) (hb : Below B w w') (hg : g < B) : Blk w' g l := (hb.block g hg).trans h
theorem Blk.alloc (h : Blk w g l) (o : Obj) : Blk (w.alloc o) g l := (Below.heap_alloc w o g h.lt).trans h
theorem Blk.drew (h : Blk w g l) : Blk w.drew g l := h
theorem Blk.set (h : Blk w g l) (i : Nat) (x : UInt8) : Blk (w.setCell ⟨g, i, none⟩ (.int .u8 (x.toNat : Int))) g (l.set i x) := by
  unfold Blk at h ⊢
  simp only [World.setCell, Array.getElem?_modify, h, if_true, Option.map_some]
  congr 2
  apply Array.toList_inj.1
  simp [bvs, List.map_set, bv]
theorem Blk.rb (h : Blk w g l) (off : Nat) : RB w (g + 1) (some ⟨g, off, none⟩) (l.drop off) := fun k x hx => by
  rw [List.getElem?_drop] at hx
  have hlt : off + k < l.length := (List.getElem?_eq_some_iff.1 hx).1
  refine ⟨_, rfl, by show g < g + 1; omega, ?_⟩
  have e : (⟨g, off, none⟩ : Addr).add k = ⟨g, off + k, none⟩ := by unfold Addr.add; split <;> simp_all
  rw [e, h.cell hlt]
  have : l[off + k] = x := by rw [List.getElem?_eq_getElem hlt] at hx; exact Option.some.inj hx
  rw [this]
  rfl
theorem Blk.own (h : Blk w g l) {base : Nat} (hb : base ≤ g) (hl : l.length ≤ 140737488355327) : Own w base (.slice (some ⟨g, 0, none⟩) l.length l.length) l :=
  ⟨by simp [bvs], .inr ⟨g, l.length, _, rfl, hb, h, Nat.le_refl _, by simp only [maxLen]; omega, by simp [bvs], by rw [Nat.mul_one]; exact List.take_of_length_le (by simp [bvs])⟩⟩
end

theorem info8 : (Tryd.prog.info? 5).map (fun i => (i.zero, i.size, i.bytes)) = some (some (.int .u8 0), 1, 1) := by kernel_rfl

/-- append(v, x...): v the call's own; x any slice that reads as r. -/
theorem app_bytes {w : World} {ops : Array Oper} {rest : List Oper} {o : Oper} {a : Act} {Q : Exit → Act → World → Prop} (hgd : o.guard = none) (s x : Operand)
    (ho : o.op = .call { callee := .builtin .append, args := #[s, x], argTypes := #[25, 25] })
    (base : Nat) (v : Value) (l : List UInt8) (hs : a.eval s = v) (hown : Own w base v l)
    (B : Nat) (A : Option Addr) (m c : Nat) (r : List UInt8) (hx : a.eval x = .slice A m c) (hm : m = r.length) (hr : RB w B A r)
    (hlen : l.length + r.length ≤ 140737488355327) (hbase : base ≤ w.heap.size)
    (h : ∀ v' w', Own w' base v' (l ++ r) → Below base w w' → w.grownBy w' v.ownBlock → wpList Tryd.prog ops Q rest (a.put o.dst v') w') :
    wpList Tryd.prog ops Q (o :: rest) a w := by
  subst hm
  obtain ⟨i0, hi0, hz0, hz1, hz2⟩ := info_parts info8
  refine wpList_plain hgd fun K hK => ?_
  have run : ∃ v' w', (Builtin.append_ #[25, 25] o.type #[v, .slice A r.length c]).run Tryd.prog w = .ok v' w' ∧ Own w' base v' (l ++ r) ∧ w.grownBy w' v.ownBlock ∧ (v'.ownBlock = v.ownBlock ∨ v'.ownBlock = some w.heap.size) := by
    by_cases h0 : r.length = 0
    · obtain rfl : r = [] := List.eq_nil_of_length_eq_zero h0
      refine ⟨v, w, ?_, by simpa [Own] using hown, World.grownBy.refl w _, .inl rfl⟩
      rcases hown.2 with ⟨rfl, _⟩ | ⟨g, cap, cur, rfl, _, _, hnc, _⟩
      · cases A <;> simp [Builtin.append_, run_underlying Tryd.underlying25, sizeOf, typeInfo, hi0, Builtin.lenOf, Builtin.firstCells, loadCells, loadCellsFrom]
      · cases A <;> simp [Builtin.append_, run_underlying Tryd.underlying25, sizeOf, typeInfo, hi0, Builtin.lenOf, Builtin.firstCells, hnc, storeCells, loadCells, loadCellsFrom]
    · have hr0 : 0 < r.length := by omega
      obtain ⟨ad, rfl, _, _⟩ := hr.at_ hr0
      obtain ⟨v', w', hrun, h2, h3, _, h5⟩ := run_append_own_at (P := Tryd.prog) w base 25 o.type 5 i0 (.int .u8 0) 1 1 Tryd.underlying25 hi0 hz0 hz1 hz2 rfl (by omega) v l.length (bvs l) hown ad r.length c (bvs r)
        (by simp [bvs]) (fun j u hu => by
          simp only [bvs, List.getElem?_map, Option.map_eq_some_iff] at hu
          obtain ⟨y, hy, rfl⟩ := hu
          obtain ⟨ad', e, _, hc⟩ := hr j y hy
          cases e
          exact hc) (bvs_one r) (by simp only [maxLen]; omega) (by omega) hbase
      exact ⟨v', w', hrun, by simpa [Own, bvs] using h2, h3, h5⟩
  obtain ⟨v', w', hrun, h2, h3, h4⟩ := run
  unfold Oper.wp execOp
  simp only [ho, resolve, invoke, builtin, Sem.run_bind, Sem.run_pure, Result.andThen_ok, List.map_toArray, List.map_cons, List.map_nil, hs, hx, hrun]
  exact hK _ _ (h v' w' h2 ((Below.refl _ _).grown h3 hbase hown.ge) h3)
end Go.Proofs.YtghcfmkmndldoaaDoor

/-
  Numbers, seven bits a byte: what both programs' writers of numbers tell.
-/
namespace Go.Proofs.YtghcfmkmndldoaaDoor
open Go.RowKit

/-- seven bits a byte, the lowest first -/
def numBytes (v : Nat) : List UInt8 :=
  if h : v < 128 then [UInt8.ofNat v] else UInt8.ofNat (v % 128 + 128) :: numBytes (v / 128)
termination_by v
decreasing_by omega
theorem numBytes_lt {v : Nat} (h : v < 128) : numBytes v = [UInt8.ofNat v] := by rw [numBytes]; simp [h]
theorem numBytes_ge {v : Nat} (h : ¬ v < 128) : numBytes v = UInt8.ofNat (v % 128 + 128) :: numBytes (v / 128) := by rw [numBytes]; simp [h]
theorem numBytes_len (n : Nat) : ∀ v : Nat, v < 128 ^ (n + 1) → (numBytes v).length ≤ n + 1 := by
  induction n with
  | zero => intro v hv; rw [numBytes_lt (by simpa using hv)]; simp
  | succ n ih =>
    intro v hv
    by_cases h : v < 128
    · rw [numBytes_lt h]; simp
    · rw [numBytes_ge h, List.length_cons]
      have := ih (v / 128) (by rw [Nat.div_lt_iff_lt_mul (by omega)]; rw [Nat.pow_succ] at hv; exact hv)
      omega
theorem numBytes_pos (v : Nat) : 1 ≤ (numBytes v).length := by
  by_cases h : v < 128
  · rw [numBytes_lt h]; simp
  · rw [numBytes_ge h]; simp
/-- 2 to the 64, behind a name: so great a numeral stops a walk -/
def two64 : Nat := 18446744073709551616
theorem two64_eq : two64 = 18446744073709551616 := rfl
theorem numBytes_ten {v : Nat} (h : v < two64) : (numBytes v).length ≤ 10 := numBytes_len 9 v (Nat.lt_of_lt_of_le h (by decide))

theorem byte_low (v : Nat) (_h : v < 128) : IntKind.u8.wrap (v : Int) = ((UInt8.ofNat v).toNat : Int) := by
  rw [IntKind.wrap_u8', UInt8.toNat_ofNat']; omega
theorem byte_high (v : Nat) : bits .or .u8 (IntKind.u8.wrap (v : Int)) 128 = ((UInt8.ofNat (v % 128 + 128)).toNat : Int) := by
  rw [IntKind.wrap_u8']
  have e : (v : Int) % 256 = ((v % 256 : Nat) : Int) := by omega
  have e2 : (128 : Int) = ((128 : Nat) : Int) := rfl
  rw [e, e2, u8_or_nat _ _ (by omega) (by omega), UInt8.toNat_ofNat']
  have : v % 256 ||| 128 = v % 128 + 128 := by
    have h : ∀ x : Fin 256, x.val ||| 128 = x.val % 128 + 128 := by decide +kernel
    have := h ⟨v % 256, by omega⟩
    simp only at this
    rw [this]
    omega
  rw [this]
  omega

set_option maxRecDepth 20000 in
set_option maxHeartbeats 400000 in
theorem add_any (base : Nat) (b : Value) (l : List UInt8) (v : Nat) (w : World) (hv : v < two64) (hown : Own w base b l) (hbase : base ≤ w.heap.size) (hl : l.length ≤ 1099511627776) :
    Calls Tryd.prog 119 #[b, .int .u64 (v : Int)] w fun e w' => ∃ b', e = .returned b' ∧ Own w' base b' (l ++ numBytes v) ∧ Below base w w' := by
  go_enter Tryd.func119, Tryd.ntmps119
  go_wp2
  go_loopw [0, 1] (fun b n wr => ∃ (k : Nat) (done : List UInt8), n = .int .u64 (k : Int) ∧ k < two64 ∧ k ≤ v ∧ done.length + (numBytes k).length ≤ l.length + 10 ∧ Own wr base b done ∧ Below base w wr ∧ Hid (l ++ numBytes v = done ++ numBytes k)) (fun _ n _ => (intOf n).toNat)
  case atStart => exact ⟨v, l, rfl, hv, Nat.le_refl _, by have := numBytes_ten hv; omega, hown, Below.refl _ _, rfl⟩
  case round =>
    obtain ⟨k, done, rfl, hk, hkv, hlen, hown1, hb1, heq⟩ := hrel
    have Hk := Lib.hid hk
    have Hl := Lib.hid hlen
    have Hv := Lib.hid hkv
    have Ho := Lib.hid hown1
    have Hll := Lib.hid hl
    clear hk hlen hkv hown1 hown hv hl
    have Hr : Hid (done.length + ([UInt8.ofNat k] : List UInt8).length ≤ 140737488355327) := by
      have := Hl.out
      have h1 : 1 ≤ (numBytes k).length := numBytes_pos k
      have := Hll.out
      simp only [List.length_cons, List.length_nil]
      show _ ≤ _
      omega
    have hb1' : Hid (base ≤ wr.heap.size) := Nat.le_trans hbase hb1.size
    have Hs : Hid (∀ o, base ≤ (wr.alloc o).heap.size) := fun o => by
      have := hb1.size
      simp
      omega
    by_cases h128 : 128 ≤ k
    · have Hb : Hid (#[Value.int .u8 (bits .or .u8 ((k : Int) % 256) 128)].toList = bvs [UInt8.ofNat (k % 128 + 128)]) := by
        have := byte_high k
        rw [IntKind.wrap_u8'] at this
        show _ = _
        rw [this]
        rfl
      go_wp2_with (at_builtin; refine app_bytes rfl (.tmp 7) (.tmp 11) rfl base _ done rfl (Own.alloc Ho.out _) _ _ 1 1 [UInt8.ofNat (k % 128 + 128)] rfl rfl (RB.new _ _ _ _ Hb.out) Hr.out (Hs.out _) ?_; intro v1 w1 hown2 hbel _)
      have hbl : Below base w w1 := (hb1.alloc hb1'.out _).trans hbel
      have hd : k / 128 < k := by omega
      have he : numBytes k = UInt8.ofNat (k % 128 + 128) :: numBytes (k / 128) := numBytes_ge (by omega)
      have h1 := Hk.out
      have h2 := Hl.out
      have h3 := Hv.out
      rw [he] at h2
      exact ⟨⟨k / 128, _, by go_num, by omega, by omega, by simp only [List.length_append, List.length_cons, List.length_nil] at h2 ⊢; omega, hown2, hbl, by have := heq.out; rw [he] at this; show _ = _; rw [this]; simp⟩, by simp [intOf]; omega⟩
    · have Hb : Hid (#[Value.int .u8 (k : Int)].toList = bvs [UInt8.ofNat k]) := by
        have : (k : Int) = ((UInt8.ofNat k).toNat : Int) := by rw [UInt8.toNat_ofNat']; omega
        show _ = _
        rw [this]
        rfl
      go_wp2_with (at_builtin; refine app_bytes rfl (.tmp 15) (.tmp 18) rfl base _ done rfl (Own.alloc Ho.out _) _ _ 1 1 [UInt8.ofNat k] rfl rfl (RB.new _ _ _ _ Hb.out) Hr.out (Hs.out _) ?_; intro v1 w1 hown2 hbel _)
      have hbl : Below base w w1 := (hb1.alloc hb1'.out _).trans hbel
      go_ret
      exact ⟨v1, rfl, by rw [heq.out, numBytes_lt (by omega)]; exact hown2, hbl⟩

set_option maxRecDepth 20000 in
set_option maxHeartbeats 400000 in
theorem refNumber_any (base : Nat) (b : Value) (l : List UInt8) (v : Nat) (w : World) (hv : v < two64) (hown : Own w base b l) (hbase : base ≤ w.heap.size) (hl : l.length ≤ 1099511627776) :
    Calls Tryd.prog 62 #[b, .int .u64 (v : Int)] w fun e w' => ∃ b', e = .returned b' ∧ Own w' base b' (l ++ numBytes v) ∧ Below base w w' := by
  go_enter Tryd.func62, Tryd.ntmps62
  go_wp2
  go_loopw [0, 1] (fun b n wr => ∃ (k : Nat) (done : List UInt8), n = .int .u64 (k : Int) ∧ k < two64 ∧ k ≤ v ∧ done.length + (numBytes k).length ≤ l.length + 10 ∧ Own wr base b done ∧ Below base w wr ∧ Hid (l ++ numBytes v = done ++ numBytes k)) (fun _ n _ => (intOf n).toNat)
  case atStart => exact ⟨v, l, rfl, hv, Nat.le_refl _, by have := numBytes_ten hv; omega, hown, Below.refl _ _, rfl⟩
  case round =>
    obtain ⟨k, done, rfl, hk, hkv, hlen, hown1, hb1, heq⟩ := hrel
    have Hk := Lib.hid hk
    have Hl := Lib.hid hlen
    have Hv := Lib.hid hkv
    have Ho := Lib.hid hown1
    have Hll := Lib.hid hl
    clear hk hlen hkv hown1 hown hv hl
    have Hr : Hid (done.length + ([UInt8.ofNat k] : List UInt8).length ≤ 140737488355327) := by
      have := Hl.out
      have h1 : 1 ≤ (numBytes k).length := numBytes_pos k
      have := Hll.out
      simp only [List.length_cons, List.length_nil]
      show _ ≤ _
      omega
    have hb1' : Hid (base ≤ wr.heap.size) := Nat.le_trans hbase hb1.size
    have Hs : Hid (∀ o, base ≤ (wr.alloc o).heap.size) := fun o => by
      have := hb1.size
      simp
      omega
    by_cases h128 : 128 ≤ k
    · have Hb : Hid (#[Value.int .u8 (bits .or .u8 ((k : Int) % 256) 128)].toList = bvs [UInt8.ofNat (k % 128 + 128)]) := by
        have := byte_high k
        rw [IntKind.wrap_u8'] at this
        show _ = _
        rw [this]
        rfl
      go_wp2_with (at_builtin; refine app_bytes rfl (.tmp 7) (.tmp 11) rfl base _ done rfl (Own.alloc Ho.out _) _ _ 1 1 [UInt8.ofNat (k % 128 + 128)] rfl rfl (RB.new _ _ _ _ Hb.out) Hr.out (Hs.out _) ?_; intro v1 w1 hown2 hbel _)
      have hbl : Below base w w1 := (hb1.alloc hb1'.out _).trans hbel
      have hd : k / 128 < k := by omega
      have he : numBytes k = UInt8.ofNat (k % 128 + 128) :: numBytes (k / 128) := numBytes_ge (by omega)
      have h1 := Hk.out
      have h2 := Hl.out
      have h3 := Hv.out
      rw [he] at h2
      exact ⟨⟨k / 128, _, by go_num, by omega, by omega, by simp only [List.length_append, List.length_cons, List.length_nil] at h2 ⊢; omega, hown2, hbl, by have := heq.out; rw [he] at this; show _ = _; rw [this]; simp⟩, by simp [intOf]; omega⟩
    · have Hb : Hid (#[Value.int .u8 (k : Int)].toList = bvs [UInt8.ofNat k]) := by
        have : (k : Int) = ((UInt8.ofNat k).toNat : Int) := by rw [UInt8.toNat_ofNat']; omega
        show _ = _
        rw [this]
        rfl
      go_wp2_with (at_builtin; refine app_bytes rfl (.tmp 15) (.tmp 18) rfl base _ done rfl (Own.alloc Ho.out _) _ _ 1 1 [UInt8.ofNat k] rfl rfl (RB.new _ _ _ _ Hb.out) Hr.out (Hs.out _) ?_; intro v1 w1 hown2 hbel _)
      have hbl : Below base w w1 := (hb1.alloc hb1'.out _).trans hbel
      go_ret
      exact ⟨v1, rfl, by rw [heq.out, numBytes_lt (by omega)]; exact hown2, hbl⟩
end Go.Proofs.YtghcfmkmndldoaaDoor

/-
  A slice of bytes as a text.
-/
namespace Go.Proofs.YtghcfmkmndldoaaDoor
open Go.RowKit

theorem push_all (l : List UInt8) : ∀ s : ByteArray, (l.map fun x => (x.toNat : Int)).foldl (fun r n => r.push (UInt8.ofNat n.toNat)) s = ⟨s.data ++ l.toArray⟩ := by
  induction l with
  | nil => intro s; simp
  | cons x l ih =>
    intro s
    simp only [List.map_cons, List.foldl_cons, ih, Int.toNat_natCast, UInt8.ofNat_toNat]
    simp [ByteArray.push]
/-- string(b) -/
theorem text_run (w : World) (B : Nat) (A : Option Addr) (l : List UInt8) (c : Nat) (hr : RB w B A l) :
    (convert 25 9 (.slice A l.length c)).run Tryd.prog w = .ok (.string ⟨l.toArray⟩) w := by
  rw [run_convert_bytes_string w _ _ _ _ _ _ Tryd.underlying25 Tryd.underlying5 Tryd.underlying9]
  rcases A with _ | ad
  · have h0 : l = [] := by
      rcases l with _ | ⟨x, l⟩
      · rfl
      · obtain ⟨ad, e, _⟩ := hr 0 x rfl
        cases e
    subst h0
    simp [Conv.bytesToString, Sem.run_pure]
    rfl
  · have hl := run_loadCells_list (P := Tryd.prog) (w := w) ad (bvs l) (fun j v hv => by
      simp only [bvs, List.getElem?_map, Option.map_eq_some_iff] at hv
      obtain ⟨y, hy, rfl⟩ := hv
      obtain ⟨ad', e, _, hc⟩ := hr j y hy
      cases e
      exact hc)
    rw [bvs_length] at hl
    have := run_bytesToString (P := Tryd.prog) w ad l.length c (l.map fun x => (x.toNat : Int)) (by rw [hl]; simp [bvs, bv, Function.comp_def])
    rw [this, push_all]
    simp

end Go.Proofs.YtghcfmkmndldoaaDoor
