/-
  One write laid, and how it is undone.
-/
import Derived.Test.YtkjogkmdldplgaaDoorKNv3
import Derived.Test.YtkjogkmdldplgaaDoorAppStep
import Derived.Deep.RegionHeld3
namespace Go.Proofs.YtkjogkmdldplgaaDoor
open Go.RowKit

def Dev.put (D : Dev) (at_ : Nat) (l : List UInt8) : Dev :=
  if l = [] then D else ⟨splat D.mem at_ l, D.undos ++ [⟨at_, (D.mem.drop at_).take l.length, D.pending⟩], D.pending + l.length⟩
theorem Dev.Ok.put {D : Dev} (h : D.Ok) (at_ : Nat) (l : List UInt8) (hf : at_ + l.length ≤ D.mem.length) : (D.put at_ l).Ok := by
  unfold Dev.put
  split
  · exact h
  · rename_i hn
    have hl : 1 ≤ l.length := List.length_pos_iff.2 hn
    have hs := splat_length D.mem at_ l hf
    have hw : ((D.mem.drop at_).take l.length).length = l.length := by simp; omega
    refine ⟨by show 64 ≤ (splat D.mem at_ l).length; rw [hs]; exact h.low, by show (splat D.mem at_ l).length ≤ _; rw [hs]; exact h.high, fun u hu => ?_, fun u hu => ?_, fun u hu => ?_, ?_⟩
    · show _ ≤ (splat D.mem at_ l).length
      rw [hs]
      rcases List.mem_append.1 hu with hu | hu
      · exact h.fits u hu
      · rw [List.mem_singleton.1 hu, hw]; exact hf
    · show _ ≤ D.pending + l.length
      rcases List.mem_append.1 hu with hu | hu
      · have := h.ahead u hu; omega
      · rw [List.mem_singleton.1 hu, hw]; exact Nat.le_refl _
    · rcases List.mem_append.1 hu with hu | hu
      · exact h.some_ u hu
      · rw [List.mem_singleton.1 hu, hw]; exact hl
    · have := h.count
      simp
      omega

/-- behind the first half: old blocks are as they were; what was there is kept in new ones -/
def Mid (wb : World) (pend : Nat) (was : List UInt8) (b6 b7 : Nat) (A : Option Addr) (c : Nat) (wx : World) : Prop :=
  Kept (fun b => b < wb.heap.size) wb wx ∧ wb.heap.size ≤ b6 ∧ wb.heap.size ≤ b7 ∧ wx.cell? ⟨b6, 0, none⟩ = some (.slice A was.length c) ∧ wx.cell? ⟨b7, 0, none⟩ = some (.int .i64 (pend : Int)) ∧ RB wx wx.heap.size A was ∧ (∀ ad, A = some ad → wb.heap.size ≤ ad.block) ∧ was.length ≤ c ∧ c ≤ 9223372036854775807
/-- inside of it -/
structure PutInv (wb : World) (fa fb : Option (Nat × Value)) (fc : Option (Option Addr × Nat)) (was : List UInt8) (W : World) : Prop where
  kept : Kept (fun b => b < wb.heap.size) wb W
  a : ∀ b v, fa = some (b, v) → wb.heap.size ≤ b ∧ Cells W b 35 [v]
  b : ∀ b v, fb = some (b, v) → wb.heap.size ≤ b ∧ Cells W b 3 [v]
  c : ∀ A c, fc = some (A, c) → RB W W.heap.size A was ∧ (∀ ad, A = some ad → (wb.heap.size ≤ ad.block ∧ ad.block < W.heap.size) ∧ (∀ b v, fa = some (b, v) → ad.block ≠ b) ∧ (∀ b v, fb = some (b, v) → ad.block ≠ b)) ∧ was.length ≤ c ∧ c ≤ 9223372036854775807
section
variable {wb W W' : World} {fa fb : Option (Nat × Value)} {fc : Option (Option Addr × Nat)} {was : List UInt8} {ba bb : Nat} {va vb : Value}
theorem PutInv.start (wb : World) (was : List UInt8) : PutInv wb none none none was wb.drew := ⟨(Kept.refl _ wb).drew, (fun _ _ h => by cases h), (fun _ _ h => by cases h), (fun _ _ h => by cases h)⟩
theorem rb_far {A : Option Addr} (h : RB W W.heap.size A was) (o : Obj) : RB (W.alloc o) (W.alloc o).heap.size A was := (h.alloc (Nat.le_refl _) o).wide (by simp)
theorem PutInv.allocA {t : TypeId} (h : PutInv wb none fb fc was W) (ht : t = 35) : PutInv wb (some (W.heap.size, .slice none 0 0)) fb fc was (W.alloc (.cells #[.slice none 0 0] t)) := by
  subst ht
  refine ⟨h.kept.alloc _, fun b v e => ?_, fun b v e => ⟨(h.b b v e).1, (h.b b v e).2.alloc _⟩, fun A c e => ?_⟩
  · cases e
    exact ⟨h.kept.size, Cells.new W _ _⟩
  · obtain ⟨q1, q2, q3⟩ := h.c A c e
    refine ⟨rb_far q1 _, fun ad he => ⟨⟨(q2 ad he).1.1, by have := (q2 ad he).1.2; simp; omega⟩, fun b v e2 e3 => ?_, (q2 ad he).2.2⟩, q3⟩
    cases e2
    exact absurd e3 (Nat.ne_of_lt (q2 ad he).1.2)
theorem PutInv.allocB {t : TypeId} (h : PutInv wb fa none fc was W) (ht : t = 3) : PutInv wb fa (some (W.heap.size, .int .i64 0)) fc was (W.alloc (.cells #[.int .i64 0] t)) := by
  subst ht
  refine ⟨h.kept.alloc _, fun b v e => ⟨(h.a b v e).1, (h.a b v e).2.alloc _⟩, fun b v e => ?_, fun A c e => ?_⟩
  · cases e
    exact ⟨h.kept.size, Cells.new W _ _⟩
  · obtain ⟨q1, q2, q3⟩ := h.c A c e
    refine ⟨rb_far q1 _, fun ad he => ⟨⟨(q2 ad he).1.1, by have := (q2 ad he).1.2; simp; omega⟩, (q2 ad he).2.1, fun b v e2 e3 => ?_⟩, q3⟩
    cases e2
    exact absurd e3 (Nat.ne_of_lt (q2 ad he).1.2)
theorem PutInv.clone (h : PutInv wb fa fb none was W) {A : Option Addr} {c : Nat} (hb : Below W.heap.size W W') (hr : RB W' W'.heap.size A was) (ha : ∀ ad, A = some ad → W.heap.size ≤ ad.block ∧ ad.block < W'.heap.size) (hc : was.length ≤ c ∧ c ≤ 9223372036854775807) : PutInv wb fa fb (some (A, c)) was W' := by
  refine ⟨h.kept.trans ⟨hb.os, hb.tape, hb.output, hb.size, fun b q _ => hb.block b q⟩, fun b v e => ⟨(h.a b v e).1, (h.a b v e).2.move (hb.block b (h.a b v e).2.lt)⟩, fun b v e => ⟨(h.b b v e).1, (h.b b v e).2.move (hb.block b (h.b b v e).2.lt)⟩, fun A' c' e => ?_⟩
  cases e
  refine ⟨hr, fun ad he => ⟨⟨Nat.le_trans h.kept.size (ha ad he).1, (ha ad he).2⟩, fun b v e2 e3 => ?_, fun b v e2 e3 => ?_⟩, hc⟩
  · have q1 := (h.a b v e2).2.lt
    have q2 := (ha ad he).1
    omega
  · have q1 := (h.b b v e2).2.lt
    have q2 := (ha ad he).1
    omega
theorem PutInv.cellA (h : PutInv wb (some (ba, va)) fb fc was W) : W.cell? ⟨ba, 0, none⟩ = some va ∧ W.frozen? ⟨ba, 0, none⟩ = false := ⟨(h.a ba va rfl).2.cell rfl, (h.a ba va rfl).2.frozen 0⟩
theorem PutInv.cellB (h : PutInv wb fa (some (bb, vb)) fc was W) : W.cell? ⟨bb, 0, none⟩ = some vb ∧ W.frozen? ⟨bb, 0, none⟩ = false := ⟨(h.b bb vb rfl).2.cell rfl, (h.b bb vb rfl).2.frozen 0⟩
theorem tcell_ne {t t' : TypeId} {cs cs' : List Value} {x y : Nat} (h : Cells W x t cs) (h' : Cells W y t' cs') (ht : t ≠ t') : x ≠ y := fun e => by subst e; exact ht (h.type h').1
theorem PutInv.storeA (h : PutInv wb (some (ba, va)) fb fc was W) (v : Value) : PutInv wb (some (ba, v)) fb fc was (W.setCell ⟨ba, 0, none⟩ v) := by
  obtain ⟨g1, g2⟩ := h.a ba va rfl
  have hk : Kept (fun b => b ≠ ba) W (W.setCell ⟨ba, 0, none⟩ v) := (Kept.refl _ W).setCell (fun h => h rfl) v
  refine ⟨h.kept.setCell (by show ¬ ba < _; omega) v, fun b x e => ?_, fun b x e => ?_, fun A c e => ?_⟩
  · cases e
    exact ⟨g1, g2.set 0 v⟩
  · obtain ⟨q1, q2⟩ := h.b b x e
    exact ⟨q1, q2.move (hk.block b q2.lt (tcell_ne q2 g2 (by decide)))⟩
  · obtain ⟨q1, q2, q3⟩ := h.c A c e
    exact ⟨(q1.kept hk (fun _ ad he => (q2 ad he).2.1 ba va rfl) (Nat.le_refl _)).wide hk.size, fun ad he => ⟨⟨(q2 ad he).1.1, Nat.lt_of_lt_of_le (q2 ad he).1.2 hk.size⟩, fun b x e2 => by cases e2; exact (q2 ad he).2.1 ba va rfl, (q2 ad he).2.2⟩, q3⟩
theorem PutInv.storeB (h : PutInv wb fa (some (bb, vb)) fc was W) (v : Value) : PutInv wb fa (some (bb, v)) fc was (W.setCell ⟨bb, 0, none⟩ v) := by
  obtain ⟨g1, g2⟩ := h.b bb vb rfl
  have hk : Kept (fun b => b ≠ bb) W (W.setCell ⟨bb, 0, none⟩ v) := (Kept.refl _ W).setCell (fun h => h rfl) v
  refine ⟨h.kept.setCell (by show ¬ bb < _; omega) v, fun b x e => ?_, fun b x e => ?_, fun A c e => ?_⟩
  · obtain ⟨q1, q2⟩ := h.a b x e
    exact ⟨q1, q2.move (hk.block b q2.lt (tcell_ne q2 g2 (by decide)))⟩
  · cases e
    exact ⟨g1, g2.set 0 v⟩
  · obtain ⟨q1, q2, q3⟩ := h.c A c e
    exact ⟨(q1.kept hk (fun _ ad he => (q2 ad he).2.2 bb vb rfl) (Nat.le_refl _)).wide hk.size, fun ad he => ⟨⟨(q2 ad he).1.1, Nat.lt_of_lt_of_le (q2 ad he).1.2 hk.size⟩, (q2 ad he).2.1, fun b x e2 => by cases e2; exact (q2 ad he).2.2 bb vb rfl⟩, q3⟩
theorem PutInv.mid {n pd : Nat} {A : Option Addr} {c : Nat} (hn : was.length = n) (h : PutInv wb (some (ba, .slice A n c)) (some (bb, .int .i64 (pd : Int))) (some (A, c)) was W) : Mid wb pd was ba bb A c W := by
  subst hn
  obtain ⟨q1, q2, q3, q4⟩ := h.c A c rfl
  exact ⟨h.kept, (h.a _ _ rfl).1, (h.b _ _ rfl).1, h.cellA.1, h.cellB.1, q1, fun ad he => (q2 ad he).1.1, q3, q4⟩
end

theorem step_app_one {w : World} {ops : Array Oper} {K : Act → World → Prop} {E : Prop} {o : Oper} {a : Act} {Q : Exit → Act → World → Prop} (hgd : o.guard = none) (s x : Operand) (t e : TypeId)
    (ho : o.op = .call { callee := .builtin .append, args := #[s, x], argTypes := #[t, t] })
    (hu : Tryd.prog.underlying t = some (.slice e)) (z : Value) (bytes : Nat) (hi : (Tryd.prog.info? e).map (fun i => (i.zero, i.size, i.bytes)) = some (some z, 1, bytes)) (hzc : z.cells.size = 1)
    (base : Nat) (v : Value) (xs : List Value) (hs : a.eval s = v) (hown : OwnV w base e v xs)
    (ad : Addr) (c : Nat) (u : Value) (hx : a.eval x = .slice (some ad) 1 c) (hc : w.cell? ad = some u) (h1 : u.oneCell' = true)
    (hlen : xs.length + 1 ≤ 140737488355327) (hbytes : (xs.length + 1) * bytes ≤ 140737488355328) (hbase : base ≤ w.heap.size)
    (h : ∀ v' w', OwnV w' base e v' (xs ++ [u]) → w.grownBy w' v.ownBlock → (v'.ownBlock = v.ownBlock ∨ v'.ownBlock = some w.heap.size) → K (a.put o.dst v') w') :
    if Region.wanted o (yielded ops a.tmps) = true then Oper.wp Tryd.prog o a w K Q else E := by
  have hw : Region.wanted o (yielded ops a.tmps) = true := by simp [Region.wanted, hgd]
  rw [if_pos hw]
  obtain ⟨v', w', hrun, h2, h3, h5⟩ := app_cells_run (w := w) t o.type e hu z bytes hi hzc base v xs hown ad c [u]
    (fun j y hy => by
      cases j with
      | zero => simp at hy; subst hy; exact hc
      | succ j => simp at hy) (fun y hy => by simp at hy; subst hy; exact h1) (by simpa using hlen) (by simpa using hbytes) hbase
  unfold Oper.wp execOp
  simp only [ho, resolve, invoke, builtin, Sem.run_bind, Sem.run_pure, Result.andThen_ok, List.map_toArray, List.map_cons, List.map_nil, hs, hx]
  rw [show (Builtin.append_ #[t, t] o.type #[v, .slice (some ad) 1 c]).run Tryd.prog w = .ok v' w' from hrun]
  exact h v' w' h2 h3 h5
theorem info_undo : (Tryd.prog.info? 162).map (fun i => (i.zero, i.size, i.bytes)) = some (some .nilFunc, 1, 8) := by kernel_rfl
/-- the whole put, seen from its ends -/
theorem put_facts {w wb wc W9 W11 : World} {O : Nat → Option Tag} {pw nv bb at_ b6 b7 cc : Nat} {P : Pow} {D : Dev} {uv v9 : Value} {vs : List Value} {Ac : Option Addr} {l was : List UInt8} {o : Obj} (h : SysAt w O pw P nv D)
    (c1 : Cells w nv 54 [.pointer (some ⟨pw, 0, none⟩), .slice (some ⟨bb, 0, none⟩) D.mem.length D.mem.length, uv, .int .i64 (D.pending : Int)]) (t1 : O nv = some .nv) (c2 : Blk w bb D.mem) (t2 : O bb = some .bytes) (o1 : OwnV w 0 162 uv vs) (o2 : ∀ g, uv.ownBlock = some g → O g = some .undos) (o3 : vs.length = D.undos.length)
    (o4 : ∀ (k : Nat) u, D.undos[k]? = some u → ∃ v, vs[k]? = some v ∧ UndoAt w O nv v u)
    (hkb : Kept (fun b => b < w.heap.size) w wb) (hsb : wb.heap.size = w.heap.size + 2) (x3 : wb.cell? ⟨w.heap.size, 0, none⟩ = some (.pointer (some ⟨nv, 0, none⟩))) (x4 : wb.cell? ⟨w.heap.size + 1, 0, none⟩ = some (.int .i64 (at_ : Int)))
    (hm : Mid wb D.pending was b6 b7 Ac cc wc) (hwas : was = (D.mem.drop at_).take l.length) (hne : l ≠ [])
    (hown : OwnV W9 0 162 v9 (vs ++ [undoV b7 b6 w.heap.size (w.heap.size + 1)])) (hg : (wc.alloc o).grownBy W9 uv.ownBlock) (hb : v9.ownBlock = uv.ownBlock ∨ v9.ownBlock = some (wc.alloc o).heap.size)
    (hB : Blk W11 bb (splat D.mem at_ l)) (hk11 : Kept (fun b => b ≠ bb) (W9.setCell ⟨nv, 2, none⟩ v9) W11) (hf : at_ + l.length ≤ D.mem.length) :
    SysPost w O pw P nv (D.put at_ l) (.tuple #[]) (.returned (.tuple #[])) (W11.setCell ⟨nv, 3, none⟩ (.int .i64 ((D.pending : Int) + (l.length : Int)))) := by
  obtain ⟨m1, m2, m3, m4, m5, m6, m7, m8, m9⟩ := hm
  have hsc := m1.size
  have kc : Kept (fun b => b < w.heap.size) w wc := hkb.trans ⟨m1.os, m1.tape, m1.output, m1.size, fun b hb h => m1.block b hb (by omega)⟩
  have hnu : ∀ g, uv.ownBlock = some g → g < w.heap.size := fun g hg => (o1.ge g hg).2
  have hal : (wc.alloc o).heap.size = wc.heap.size + 1 := by simp
  have h9s : wc.heap.size + 1 ≤ W9.heap.size := by have := hg.size; omega
  -- what is not the row of undos is as it was
  have k9 : Kept (fun b => uv.ownBlock ≠ some b) wc W9 := ((Kept.refl _ wc).alloc o).grown hg (fun g e h => h e)
  have hnun : uv.ownBlock ≠ some nv := fun e => by have := o2 nv e; rw [t1] at this; cases this
  have hbun : uv.ownBlock ≠ some bb := fun e => by have := o2 bb e; rw [t2] at this; cases this
  have hnb : nv ≠ bb := fun e => by rw [e, t2] at t1; cases t1
  have h9n : ∀ g, v9.ownBlock = some g → uv.ownBlock = some g ∨ g = wc.heap.size + 1 := fun g hgg => by
    rcases hb with e | e
    · exact .inl (e ▸ hgg)
    · rw [e] at hgg; cases hgg; exact .inr hal
  obtain ⟨WF, hWF⟩ : ∃ WF, WF = W11.setCell ⟨nv, 3, none⟩ (.int .i64 ((D.pending : Int) + (l.length : Int))) := ⟨_, rfl⟩
  rw [← hWF]
  have kF : Kept (fun b => uv.ownBlock ≠ some b ∧ b ≠ nv ∧ b ≠ bb) wc WF := by
    rw [hWF]
    refine Kept.setCell ?_ (fun q => q.2.1 rfl) _
    have q1 : Kept (fun b => uv.ownBlock ≠ some b ∧ b ≠ nv ∧ b ≠ bb) wc (W9.setCell ⟨nv, 2, none⟩ v9) := Kept.setCell (k9.mono fun b _ q => q.1) (fun q => q.2.1 rfl) v9
    exact q1.trans (hk11.mono fun b _ q => q.2.2)
  have k9F : Kept (fun b => b ≠ nv ∧ b ≠ bb) W9 WF := by
    rw [hWF]
    refine Kept.setCell ?_ (fun q => q.1 rfl) _
    have q1 : Kept (fun b => b ≠ nv ∧ b ≠ bb) W9 (W9.setCell ⟨nv, 2, none⟩ v9) := (Kept.refl _ W9).setCell (fun q => q.1 rfl) v9
    exact q1.trans (hk11.mono fun b _ q => q.2)
  have cF : Cells WF nv 54 [.pointer (some ⟨pw, 0, none⟩), .slice (some ⟨bb, 0, none⟩) D.mem.length D.mem.length, v9, .int .i64 ((D.pending : Int) + (l.length : Int))] := by
    have q1 := (c1.move (kc.block nv c1.lt c1.lt)).move (k9.block nv (Nat.lt_of_lt_of_le c1.lt kc.size) hnun)
    have q2 := q1.set 2 v9
    have q3 := q2.move (hk11.block nv q2.lt hnb)
    rw [hWF]
    exact q3.set 3 _
  have bF : Blk WF bb (splat D.mem at_ l) := by
    rw [hWF]
    exact (Below.heap_setCell _ _ _ _ (fun e => hnb e.symm)).trans hB
  obtain ⟨O', hO'⟩ : ∃ O' : Nat → Option Tag, O' = fun b => if b < w.heap.size then O b else if v9.ownBlock = some b then some .undos else if b < wc.heap.size then some .undo else none := ⟨_, rfl⟩
  have p1 : ∀ b, b < w.heap.size → O' b = O b := fun b q => by rw [hO']; exact if_pos q
  have p2 : ∀ g, v9.ownBlock = some g → O' g = some .undos := fun g q => by
    rcases h9n g q with e | e
    · rw [p1 g (hnu g e)]; exact o2 g e
    · rw [hO']; simp only [if_neg (show ¬ g < w.heap.size by omega), if_pos q]
  have p3 : ∀ b, w.heap.size ≤ b → b < wc.heap.size → O' b = some .undo := fun b q1 q2 => by
    rw [hO']
    simp only [if_neg (show ¬ b < w.heap.size by omega)]
    have hnn : ¬ v9.ownBlock = some b := by
      intro e
      rcases h9n b e with q | q
      · have := hnu b q
        omega
      · omega
    rw [if_neg hnn, if_pos q2]
  have p4 : ∀ b, O' b ≠ none → b < WF.heap.size := fun b hbn => by
    have := kF.size
    have h9F := k9F.size
    by_cases q : b < wc.heap.size
    · omega
    · by_cases q2 : v9.ownBlock = some b
      · have := (hown.ge b q2).2; omega
      · rw [hO'] at hbn
        simp only [if_neg (show ¬ b < w.heap.size by omega), if_neg q2, if_neg q] at hbn
        exact absurd rfl hbn
  clear hO'
  have kwF : Kept (fun b => uv.ownBlock ≠ some b ∧ b ≠ nv ∧ b ≠ bb) w WF := ⟨kF.os.trans kc.os, kF.tape.trans kc.tape, kF.output.trans kc.output, Nat.le_trans kc.size kF.size, fun b hb q => (kF.block b (Nat.lt_of_lt_of_le hb kc.size) q).trans (kc.block b hb hb)⟩
  have ag : Agree (fun t => t ≠ .nv ∧ t ≠ .bytes ∧ t ≠ .undos) w O WF O' := fun b t hlt hbt ht => ⟨kwF.block b hlt ⟨fun e => ht.2.2 (by have := o2 b e; rw [hbt] at this; cases this; rfl), fun e => ht.1 (by rw [e, t1] at hbt; cases hbt; rfl), fun e => ht.2.1 (by rw [e, t2] at hbt; cases hbt; rfl)⟩, (p1 b hlt).trans hbt⟩
  have hput : D.put at_ l = ⟨splat D.mem at_ l, D.undos ++ [⟨at_, (D.mem.drop at_).take l.length, D.pending⟩], D.pending + l.length⟩ := if_neg hne
  have hsl := splat_length D.mem at_ l hf
  refine ⟨O', rfl, ⟨p4, ?_, h.ok.put at_ l hf, h.pow.keep h.fresh kwF.size ag ⟨(by intro e; cases e), (by intro e; cases e), (by intro e; cases e)⟩ ⟨(by intro e; cases e), (by intro e; cases e), (by intro e; cases e)⟩ ⟨(by intro e; cases e), (by intro e; cases e), (by intro e; cases e)⟩⟩, ⟨kwF.mono (fun b _ hb => ⟨(fun e => by rw [o2 b e] at hb; cases hb), (fun e => by rw [e, t1] at hb; cases hb), (fun e => by rw [e, t2] at hb; cases hb)⟩), p1⟩⟩
  rw [hput]
  refine ⟨bb, v9, vs ++ [undoV b7 b6 w.heap.size (w.heap.size + 1)], ?_, (p1 nv c1.lt).trans t1, bF, (p1 bb c2.lt).trans t2, hown.move fun g hgg => k9F.block g (hown.ge g hgg).2 ⟨fun e => ?_, fun e => ?_⟩, p2, by simp [o3], fun k u hu => ?_⟩
  · show Cells WF nv _ [_, .slice _ (splat D.mem at_ l).length (splat D.mem at_ l).length, _, .int .i64 ((D.pending + l.length : Nat) : Int)]
    rw [hsl, show ((D.pending + l.length : Nat) : Int) = (D.pending : Int) + (l.length : Int) by omega]
    exact cF
  · rcases h9n g hgg with q | q
    · exact hnun (e ▸ q)
    · have := c1.lt; omega
  · rcases h9n g hgg with q | q
    · exact hbun (e ▸ q)
    · have := c2.lt; omega
  · by_cases hkl : k < D.undos.length
    · rw [List.getElem?_append_left hkl] at hu
      obtain ⟨v, hv, q⟩ := o4 k u hu
      exact ⟨v, by rw [List.getElem?_append_left (by omega)]; exact hv, q.keep h.fresh kwF.size ag ⟨(by intro e; cases e), (by intro e; cases e), (by intro e; cases e)⟩⟩
    · have hu' : (D.undos ++ [⟨at_, (D.mem.drop at_).take l.length, D.pending⟩])[k]? = some u := hu
      rw [List.getElem?_append_right (by omega)] at hu'
      have h0 : k - D.undos.length = 0 := by
        have := (List.getElem?_eq_some_iff.1 hu').1
        simp at this
        omega
      rw [h0] at hu'
      simp only [List.getElem?_cons_zero, Option.some.injEq] at hu'
      subst hu'
      have fr : ∀ {b i : Nat} {v : Value}, w.heap.size ≤ b → wc.cell? ⟨b, i, none⟩ = some v → WF.cell? ⟨b, i, none⟩ = some v := fun {b} {_} {_} q hv => (World.cell?_of_block (w := wc) (kF.block b (cell_lt hv) ⟨fun e => by have := hnu _ e; omega, fun e => by have := c1.lt; omega, fun e => by have := c2.lt; omega⟩)).trans hv
      have frb : ∀ {b i : Nat} {v : Value}, wb.cell? ⟨b, i, none⟩ = some v → wc.cell? ⟨b, i, none⟩ = some v := fun hv => (World.cell?_of_block (w := wb) (m1.block _ (cell_lt hv) (cell_lt hv))).trans hv
      have g7 : w.heap.size ≤ b7 := by omega
      have g6 : w.heap.size ≤ b6 := by omega
      refine ⟨_, by rw [List.getElem?_append_right (by omega), o3, h0]; rfl, b7, b6, w.heap.size, w.heap.size + 1, Ac, cc, rfl, fr g7 m5, ?_, fr (Nat.le_refl _) (frb x3), fr (Nat.le_succ _) (frb x4), p3 _ g7 (cell_lt m5), p3 _ g6 (cell_lt m4), p3 _ (Nat.le_refl _) (cell_lt (frb x3)), p3 _ (Nat.le_succ _) (cell_lt (frb x4)), ?_, fun ad e => ?_, ?_, m9⟩
      · rw [← hwas]; exact fr g6 m4
      · rw [← hwas]
        exact (m6.kept kF (fun _ ad e => ⟨fun q => by have := hnu _ q; have := m7 ad e; omega, fun q => by have := c1.lt; have := m7 ad e; omega, fun q => by have := c2.lt; have := m7 ad e; omega⟩) (Nat.le_refl _)).wide kF.size
      · have hq := m7 ad e
        have hl1 : 0 < was.length := by
          have := List.length_pos_iff.2 hne
          rw [hwas]
          simp
          omega
        obtain ⟨ad', e', hlt, _⟩ := m6 0 _ (List.getElem?_eq_getElem hl1)
        rw [e] at e'
        cases e'
        exact p3 _ (by omega) hlt
      · rw [← hwas]; exact m8

set_option maxRecDepth 20000 in
set_option maxHeartbeats 4000000 in
theorem put_any (pw nv at_ : Nat) (P : Pow) (D : Dev) (O : Nat → Option Tag) (A : Option Addr) (c : Nat) (l : List UInt8) (w : World) (h : SysAt w O pw P nv D) (hr : RB w w.heap.size A l) (hA : l ≠ [] → ∀ ad, A = some ad → O ad.block = none) (hf : at_ + l.length ≤ D.mem.length) (hp : D.pending + l.length ≤ 1099511627776) :
    Calls Tryd.prog 60 #[.pointer (some ⟨nv, 0, none⟩), .int .i64 (at_ : Int), .slice A l.length c] w (SysPost w O pw P nv (D.put at_ l) (.tuple #[])) := by
  by_cases hnil : l = []
  · subst hnil
    have e1 : D.put at_ [] = D := if_pos rfl
    rw [e1]
    have Hs : Hid (SysPost w O pw P nv D (.tuple #[]) (.returned (.tuple #[])) ((w.alloc (.cells #[.pointer (some ⟨nv, 0, none⟩)] 23)).alloc (.cells #[.int .i64 (at_ : Int)] 3))) :=
      ⟨O, rfl, (h.alloc _).alloc _, ((Kept.refl _ w).alloc _).alloc _, fun _ _ => rfl⟩
    clear h hr hA hf hp e1
    go_enter Tryd.func60, Tryd.ntmps60
    go_wp2_with fail
    go_end0
    exact Hs.out
  have hl1 : 1 ≤ l.length := List.length_pos_iff.2 hnil
  obtain ⟨bb, uv, vs, c1, t1, c2, t2, o1, o2, o3, o4⟩ := h.dev
  obtain ⟨wb, hwb⟩ : ∃ wb, wb = (w.alloc (.cells #[.pointer (some ⟨nv, 0, none⟩)] 23)).alloc (.cells #[.int .i64 (at_ : Int)] 3) := ⟨_, rfl⟩
  have hkb : Kept (fun b => b < w.heap.size) w wb := by rw [hwb]; exact ((Kept.refl _ w).alloc _).alloc _
  have hsb : wb.heap.size = w.heap.size + 2 := by rw [hwb]; simp
  have x3 : wb.cell? ⟨w.heap.size, 0, none⟩ = some (.pointer (some ⟨nv, 0, none⟩)) := by rw [hwb]; exact ((Cells.new w _ _).alloc _).cell rfl
  have x4 : wb.cell? ⟨w.heap.size + 1, 0, none⟩ = some (.int .i64 (at_ : Int)) := by
    have := (Cells.new (w.alloc (.cells #[.pointer (some ⟨nv, 0, none⟩)] 23)) #[.int .i64 (at_ : Int)] 3).cell (i := 0) rfl
    have e : (w.alloc (.cells #[.pointer (some ⟨nv, 0, none⟩)] 23)).heap.size = w.heap.size + 1 := by simp
    rw [e] at this
    rw [hwb]
    exact this
  have y1 : wb.cell? ⟨nv, 1, none⟩ = some (.slice (some ⟨bb, 0, none⟩) D.mem.length D.mem.length) := (c1.move (hkb.block nv c1.lt c1.lt)).cell rfl
  have y2 : wb.cell? ⟨nv, 2, none⟩ = some uv := (c1.move (hkb.block nv c1.lt c1.lt)).cell rfl
  have hnvlt := c1.lt
  have y3 : wb.cell? ⟨nv, 3, none⟩ = some (.int .i64 (D.pending : Int)) := (c1.move (hkb.block nv c1.lt c1.lt)).cell rfl
  have hn0 : at_ + l.length ≤ D.mem.length := hf
  have hhi := h.ok.high
  have hNi : (D.mem.length : Int) ≤ 67108864 := by omega
  have hs1 : IntKind.i64.wrap ((at_ : Int) + (l.length : Int)) = (at_ : Int) + (l.length : Int) := IntWalk.i64_in _ (by omega)
  have hs2 : (0 : Int) ≤ (at_ : Int) + (l.length : Int) := by omega
  have hs3 : ((at_ : Int) + (l.length : Int)).toNat = at_ + l.length := by omega
  have hs4 : (at_ : Int) + (l.length : Int) ≤ (D.mem.length : Int) := by omega
  have hs5 : (at_ : Int) ≤ (at_ : Int) + (l.length : Int) := by omega
  have hs6 : at_ < D.mem.length := by omega
  have hs7 : (at_ : Int) < (D.mem.length : Int) := by omega
  have hs8 : at_ + l.length - at_ = l.length := by omega
  have hl0 : ((l.length : Int) == 0) = false := by simp; omega
  have hl0' : (0 : Int) < (l.length : Int) := by omega
  have hwl : ((D.mem.drop at_).take l.length).length = l.length := by simp; omega
  have Hcl : Hid (∀ W, Kept (fun b => b < w.heap.size) w W → Calls Tryd.prog 34 #[.slice (some ⟨bb, at_, none⟩) l.length (D.mem.length - at_)] W fun e W' => ∃ v, e = .returned v ∧ Own W' W.heap.size v ((D.mem.drop at_).take l.length) ∧ Below W.heap.size W W') := by
    intro W hW
    have q2 : Blk W bb D.mem := (hW.block bb c2.lt c2.lt).trans c2
    have := clone_any (some ⟨bb, at_, none⟩) (D.mem.length - at_) ((D.mem.drop at_).take l.length) W W.heap.size (((q2.rb at_).take _).wide q2.lt) (Nat.le_refl _) (by omega)
    rw [hwl] at this
    exact this
  go_enter Tryd.func60, Tryd.ntmps60
  go_upto_region 2 with fail
  rw [← hwb]
  obtain ⟨was, hwas⟩ : ∃ was, was = (D.mem.drop at_).take l.length := ⟨_, rfl⟩
  rw [← hwas] at Hcl hwl
  have Hcl2 : Hid (∀ W, Kept (fun b => b < wb.heap.size) wb W → Calls Tryd.prog 34 #[.slice (some ⟨bb, at_, none⟩) l.length (D.mem.length - at_)] W fun e W' => ∃ A' c', e = .returned (.slice A' l.length c') ∧ Below W.heap.size W W' ∧ RB W' W'.heap.size A' was ∧ (∀ ad, A' = some ad → W.heap.size ≤ ad.block ∧ ad.block < W'.heap.size) ∧ (was.length ≤ c' ∧ c' ≤ 9223372036854775807)) := by
    intro W hW
    refine (Hcl.out W ⟨hW.os.trans hkb.os, hW.tape.trans hkb.tape, hW.output.trans hkb.output, Nat.le_trans hkb.size hW.size, fun b hb _ => (hW.block b (by omega) (by omega)).trans (hkb.block b hb hb)⟩).mono fun e W' ⟨v, he, hv, hb⟩ => ?_
    obtain ⟨A', c', e', q1, q2, _⟩ := hv.rb
    subst e'
    refine ⟨A', c', by rw [he, hwl], hb, q2, fun ad e => hv.lt ad.block (by rw [e]; rfl), q1, ?_⟩
    rcases hv.2 with ⟨q, _⟩ | ⟨g, cap, cur, q, _, _, _, qm, _⟩
    · have : c' = 0 := by injection q
      omega
    · have : c' = cap := by injection q
      simp only [maxLen] at qm
      omega
  have Hfin : Hid (∀ (wc W9 : World) (b6 b7 cc : Nat) (v9 : Value) (Ac : Option Addr) (o : Obj), Mid wb D.pending was b6 b7 Ac cc wc → OwnV W9 0 162 v9 (vs ++ [undoV b7 b6 w.heap.size (w.heap.size + 1)]) → (wc.alloc o).grownBy W9 uv.ownBlock → (v9.ownBlock = uv.ownBlock ∨ v9.ownBlock = some (wc.alloc o).heap.size) →
      W9.cell? ⟨w.heap.size, 0, none⟩ = some (.pointer (some ⟨nv, 0, none⟩)) ∧ W9.cell? ⟨nv, 2, none⟩ = some uv ∧ W9.frozen? ⟨nv, 2, none⟩ = false ∧
      (W9.setCell ⟨nv, 2, none⟩ v9).cell? ⟨w.heap.size, 0, none⟩ = some (.pointer (some ⟨nv, 0, none⟩)) ∧ (W9.setCell ⟨nv, 2, none⟩ v9).cell? ⟨w.heap.size + 1, 0, none⟩ = some (.int .i64 (at_ : Int)) ∧
      (W9.setCell ⟨nv, 2, none⟩ v9).cell? ⟨nv, 1, none⟩ = some (.slice (some ⟨bb, 0, none⟩) D.mem.length D.mem.length) ∧ (W9.setCell ⟨nv, 2, none⟩ v9).cell? ⟨nv, 3, none⟩ = some (.int .i64 (D.pending : Int)) ∧
      ∃ W11, (Builtin.copy_ #[35, 35] 3 #[.slice (some ⟨bb, at_, none⟩) (D.mem.length - at_) (D.mem.length - at_), .slice A l.length c]).run Tryd.prog (W9.setCell ⟨nv, 2, none⟩ v9).drew = .ok (.int .i64 (l.length : Int)) W11 ∧
        W11.cell? ⟨nv, 3, none⟩ = some (.int .i64 (D.pending : Int)) ∧ W11.frozen? ⟨nv, 3, none⟩ = false ∧ (W11.cell? ⟨w.heap.size, 0, none⟩ = some (.pointer (some ⟨nv, 0, none⟩)) ∧ W11.cell? ⟨w.heap.size + 1, 0, none⟩ = some (.int .i64 (at_ : Int)) ∧ W11.cell? ⟨nv, 1, none⟩ = some (.slice (some ⟨bb, 0, none⟩) D.mem.length D.mem.length)) ∧ ((W11.setCell ⟨nv, 3, none⟩ (.int .i64 ((D.pending : Int) + (l.length : Int)))).cell? ⟨w.heap.size, 0, none⟩ = some (.pointer (some ⟨nv, 0, none⟩)) ∧ (W11.setCell ⟨nv, 3, none⟩ (.int .i64 ((D.pending : Int) + (l.length : Int)))).cell? ⟨w.heap.size + 1, 0, none⟩ = some (.int .i64 (at_ : Int)) ∧ (W11.setCell ⟨nv, 3, none⟩ (.int .i64 ((D.pending : Int) + (l.length : Int)))).cell? ⟨nv, 1, none⟩ = some (.slice (some ⟨bb, 0, none⟩) D.mem.length D.mem.length)) ∧ Hid (SysPost w O pw P nv (D.put at_ l) (.tuple #[]) (.returned (.tuple #[])) (W11.setCell ⟨nv, 3, none⟩ (.int .i64 ((D.pending : Int) + (l.length : Int)))))) := by
    intro wc W9 b6 b7 cc v9 Ac o hm hown hg hb
    have m1 := hm.1
    have hun : ∀ b, O b = some .nv ∨ O b = some .bytes ∨ O b = none → uv.ownBlock ≠ some b := fun b q e => by
      have := o2 b e
      rcases q with q | q | q <;> rw [this] at q <;> cases q
    have k9 : Kept (fun b => uv.ownBlock ≠ some b) wc W9 := ((Kept.refl _ wc).alloc o).grown hg (fun g e h => h e)
    have kw9 : Kept (fun b => uv.ownBlock ≠ some b) w W9 := ⟨k9.os.trans (m1.os.trans hkb.os), k9.tape.trans (m1.tape.trans hkb.tape), k9.output.trans (m1.output.trans hkb.output), Nat.le_trans hkb.size (Nat.le_trans m1.size k9.size), fun b hb q => ((k9.block b (by have := hkb.size; have := m1.size; omega) q).trans (m1.block b (by have := hkb.size; omega) (by have := hkb.size; omega))).trans (hkb.block b hb hb)⟩
    have cn := c1.move (kw9.block nv c1.lt (hun nv (.inl t1)))
    have cb : Blk W9 bb D.mem := (kw9.block bb c2.lt (hun bb (.inr (.inl t2)))).trans c2
    have hnu : ∀ g, uv.ownBlock = some g → g < w.heap.size := fun g hg => (o1.ge g hg).2
    have hnb : nv ≠ bb := fun e => by rw [e, t2] at t1; cases t1
    have fr : ∀ {b i : Nat} {v : Value}, w.heap.size ≤ b → wb.cell? ⟨b, i, none⟩ = some v → W9.cell? ⟨b, i, none⟩ = some v := fun {b} {_} {_} q hv => (World.cell?_of_block (w := wc) (k9.block b (by have := cell_lt hv; have := m1.size; omega) (fun e => by have := hnu b e; omega))).trans ((World.cell?_of_block (w := wb) (m1.block b (cell_lt hv) (cell_lt hv))).trans hv)
    have s3 := fr (Nat.le_refl _) x3
    have s4 := fr (Nat.le_succ _) x4
    have kS : Kept (fun b => b ≠ nv) W9 (W9.setCell ⟨nv, 2, none⟩ v9) := (Kept.refl _ W9).setCell (fun q => q rfl) v9
    have hnl := c1.lt
    have cn10 := cn.set 2 v9
    have cb10 : Blk (W9.setCell ⟨nv, 2, none⟩ v9) bb D.mem := (kS.block bb cb.lt (fun e => hnb e.symm)).trans cb
    have r9 : RB W9 W9.heap.size A l := (hr.kept kw9 (fun q ad e => hun _ (.inr (.inr (hA q ad e)))) (Nat.le_refl _)).wide kw9.size
    have r10 : RB (W9.setCell ⟨nv, 2, none⟩ v9).drew (W9.setCell ⟨nv, 2, none⟩ v9).heap.size A l := ((r9.kept kS (fun q ad e e2 => by have := hA q ad e; rw [e2, t1] at this; cases this) (Nat.le_refl _)).wide kS.size).drew
    obtain ⟨W11, g1, g2, g3⟩ := copy_run (W9.setCell ⟨nv, 2, none⟩ v9).drew bb at_ (D.mem.length - at_) (D.mem.length - at_) A l D.mem c _ r10 cb10 (by omega) hf
    have g3' : Kept (fun b => b ≠ bb) (W9.setCell ⟨nv, 2, none⟩ v9) W11 := ⟨g3.os, g3.tape, g3.output, g3.size, g3.block⟩
    have cn11 := cn10.move (g3'.block nv cn10.lt hnb)
    have e3 : (W9.setCell ⟨nv, 2, none⟩ v9).cell? ⟨w.heap.size, 0, none⟩ = some (.pointer (some ⟨nv, 0, none⟩)) := (World.cell?_of_block (w := W9) (kS.block _ (cell_lt s3) (show w.heap.size ≠ nv by omega))).trans s3
    have e4 : (W9.setCell ⟨nv, 2, none⟩ v9).cell? ⟨w.heap.size + 1, 0, none⟩ = some (.int .i64 (at_ : Int)) := (World.cell?_of_block (w := W9) (kS.block _ (cell_lt s4) (show w.heap.size + 1 ≠ nv by omega))).trans s4
    have hbl := c2.lt
    have mv11 : ∀ {b i : Nat} {v : Value}, b ≠ bb → (W9.setCell ⟨nv, 2, none⟩ v9).cell? ⟨b, i, none⟩ = some v → W11.cell? ⟨b, i, none⟩ = some v := fun {b} {_} {_} q hv => (World.cell?_of_block (w := W9.setCell ⟨nv, 2, none⟩ v9) (g3'.block b (cell_lt hv) q)).trans hv
    have kE : Kept (fun b => b ≠ nv) W11 (W11.setCell ⟨nv, 3, none⟩ (.int .i64 ((D.pending : Int) + (l.length : Int)))) := (Kept.refl _ W11).setCell (fun q => q rfl) _
    have mv12 : ∀ {b i : Nat} {v : Value}, b ≠ bb → b ≠ nv → (W9.setCell ⟨nv, 2, none⟩ v9).cell? ⟨b, i, none⟩ = some v → (W11.setCell ⟨nv, 3, none⟩ (.int .i64 ((D.pending : Int) + (l.length : Int)))).cell? ⟨b, i, none⟩ = some v := fun {b} {_} {_} q q2 hv => (World.cell?_of_block (w := W11) (kE.block b (cell_lt (mv11 q hv)) q2)).trans (mv11 q hv)
    refine ⟨s3, cn.cell rfl, cn.frozen _, ?_, ?_, cn10.cell rfl, cn10.cell rfl, W11, g1, cn11.cell rfl, cn11.frozen _, ⟨mv11 (show w.heap.size ≠ bb by omega) e3, mv11 (show w.heap.size + 1 ≠ bb by omega) e4, cn11.cell rfl⟩, ⟨mv12 (show w.heap.size ≠ bb by omega) (show w.heap.size ≠ nv by omega) e3, mv12 (show w.heap.size + 1 ≠ bb by omega) (show w.heap.size + 1 ≠ nv by omega) e4, (cn11.set 3 _).cell rfl⟩, put_facts h c1 t1 c2 t2 o1 o2 o3 o4 hkb hsb x3 x4 hm hwas hnil hown hg hb g2 g3' hf⟩
    · exact e3
    · exact e4
  have Hown : Hid (∀ wc, Kept (fun b => b < wb.heap.size) wb wc → OwnV wc 0 162 uv vs) := fun wc m1 => o1.move fun g hg => (m1.block g (by have := (o1.ge g hg).2; have := hkb.size; omega) (by have := (o1.ge g hg).2; have := hkb.size; omega)).trans (hkb.block g (o1.ge g hg).2 (o1.ge g hg).2)
  have Hvl : Hid (vs.length ≤ 1099511627776) := by show _ ≤ _; have := h.ok.count; omega
  have Huv : Hid (∃ Au cu, uv = .slice Au vs.length cu) := by obtain ⟨Au, cu, e, _⟩ := o1.rd; exact ⟨Au, cu, e⟩
  have Hkept : Hid (Kept (fun b => b < wb.heap.size) wb wb) := Kept.refl _ _
  obtain ⟨b3, hb3⟩ : ∃ b3, b3 = w.heap.size := ⟨_, rfl⟩
  rw [← hb3] at x3 x4 Hfin hnvlt ⊢
  obtain ⟨N, hN⟩ : ∃ N, N = D.mem.length := ⟨_, rfl⟩
  rw [← hN] at hs4 hs6 hs7 hNi y1 Hcl2
  have hs9 : ¬ (N = at_) := by omega
  obtain ⟨n, hn⟩ : ∃ n, n = l.length := ⟨_, rfl⟩
  rw [← hn] at hs1 hs2 hs3 hs4 hs5 hs8 hl0 hl0' Hcl2
  rw [← hn]
  have Hwl : Hid (was.length = n) := by show _ = _; rw [hn]; exact hwl
  go_cut [6, 7] (fun v6 v7 wx => ∃ b6 b7 A' c', v6 = .pointer (some ⟨b6, 0, none⟩) ∧ v7 = .pointer (some ⟨b7, 0, none⟩) ∧ Hid (Mid wb D.pending was b6 b7 A' c' wx))
  case first =>
    clear h hr hA hf hp hnil hl1 c1 t1 c2 t2 o1 o2 o3 o4 hwb hkb hsb hn0 hhi hwl Hcl hwas hN hn hb3 Hfin Hown Hvl Huv hnvlt y2
    generalize D.pending = pd at *
    have HS : Hid (∀ W, Kept (fun b => b < wb.heap.size) wb W → (W.cell? ⟨b3, 0, none⟩ = some (.pointer (some ⟨nv, 0, none⟩)) ∧ W.cell? ⟨b3 + 1, 0, none⟩ = some (.int .i64 (at_ : Int)) ∧ W.cell? ⟨nv, 1, none⟩ = some (.slice (some ⟨bb, 0, none⟩) N N) ∧ W.cell? ⟨nv, 3, none⟩ = some (.int .i64 (pd : Int)))) := by
      intro W hk
      have mv : ∀ {b i : Nat} {v : Value}, wb.cell? ⟨b, i, none⟩ = some v → W.cell? ⟨b, i, none⟩ = some v := fun hv => (World.cell?_of_block (w := wb) (hk.block _ (cell_lt hv) (cell_lt hv))).trans hv
      exact ⟨mv x3, mv x4, mv y1, mv y3⟩
    have hI0 := PutInv.start wb was
    have hwn : was.length = n := Hwl.out
    refine wp_region_noPanic ?_
    refine wp_region_held_drew (S := (fun W => W.cell? ⟨b3, 0, none⟩ = some (.pointer (some ⟨nv, 0, none⟩)) ∧ W.cell? ⟨b3 + 1, 0, none⟩ = some (.int .i64 (at_ : Int)) ∧ W.cell? ⟨nv, 1, none⟩ = some (.slice (some ⟨bb, 0, none⟩) N N) ∧ W.cell? ⟨nv, 3, none⟩ = some (.int .i64 (pd : Int)))) (by kernel_rfl) (HS.out _ hI0.kept) (fun hHeld => ?_)
    refine wpAnyH_take (i := 0) (v := ?_) rfl (by kernel_rfl) (by kernel_rfl) (by kernel_rfl) (fun _ _ _ h => h) (Or.inl ⟨by rfl, ?_⟩) (by assumption) ?_
    rotate_left
    · intro w hSw
      try dsimp only at hSw
      simp only [List.getElem_toArray, List.getElem_cons_succ, List.getElem_cons_zero]
      go_simp
      try with_reducible rfl
    simp only [List.getElem_toArray, List.getElem_cons_succ, List.getElem_cons_zero]
    try simp only [Act.put, List.setIfInBounds_toArray, List.set_cons_zero, List.set_cons_succ]
    refine wpAnyH_take (i := 1) (v := ?_) rfl (by kernel_rfl) (by kernel_rfl) (by kernel_rfl) (fun _ _ _ h => h) (Or.inl ⟨by rfl, ?_⟩) (by assumption) ?_
    rotate_left
    · intro w hSw
      try dsimp only at hSw
      simp only [List.getElem_toArray, List.getElem_cons_succ, List.getElem_cons_zero]
      go_simp
      try with_reducible rfl
    simp only [List.getElem_toArray, List.getElem_cons_succ, List.getElem_cons_zero]
    try simp only [Act.put, List.setIfInBounds_toArray, List.set_cons_zero, List.set_cons_succ]
    refine wpAnyH_take (i := 2) (v := ?_) rfl (by kernel_rfl) (by kernel_rfl) (by kernel_rfl) (fun _ _ _ h => h) (Or.inl ⟨by rfl, ?_⟩) (by assumption) ?_
    rotate_left
    · intro w hSw
      try dsimp only at hSw
      simp only [List.getElem_toArray, List.getElem_cons_succ, List.getElem_cons_zero]
      go_simp
      try with_reducible rfl
    simp only [List.getElem_toArray, List.getElem_cons_succ, List.getElem_cons_zero]
    try simp only [Act.put, List.setIfInBounds_toArray, List.set_cons_zero, List.set_cons_succ]
    refine wpAnyH_take (i := 3) (v := ?_) rfl (by kernel_rfl) (by kernel_rfl) (by kernel_rfl) (fun _ _ _ h => h) (Or.inl ⟨by rfl, ?_⟩) (by assumption) ?_
    rotate_left
    · intro w hSw
      try dsimp only at hSw
      simp only [List.getElem_toArray, List.getElem_cons_succ, List.getElem_cons_zero]
      go_simp
      try with_reducible rfl
    simp only [List.getElem_toArray, List.getElem_cons_succ, List.getElem_cons_zero]
    try simp only [Act.put, List.setIfInBounds_toArray, List.set_cons_zero, List.set_cons_succ]
    refine wpAnyH_take (i := 4) (v := ?_) rfl (by kernel_rfl) (by kernel_rfl) (by kernel_rfl) (fun _ _ _ h => h) (Or.inl ⟨by rfl, ?_⟩) (by assumption) ?_
    rotate_left
    · intro w hSw
      try dsimp only at hSw
      simp only [List.getElem_toArray, List.getElem_cons_succ, List.getElem_cons_zero]
      go_simp
      try with_reducible rfl
    simp only [List.getElem_toArray, List.getElem_cons_succ, List.getElem_cons_zero]
    try simp only [Act.put, List.setIfInBounds_toArray, List.set_cons_zero, List.set_cons_succ]
    refine wpAnyH_take (i := 5) (v := ?_) rfl (by kernel_rfl) (by kernel_rfl) (by kernel_rfl) (fun _ _ _ h => h) (Or.inl ⟨by rfl, ?_⟩) (by assumption) ?_
    rotate_left
    · intro w hSw
      try dsimp only at hSw
      simp only [List.getElem_toArray, List.getElem_cons_succ, List.getElem_cons_zero]
      go_simp
      try with_reducible rfl
    simp only [List.getElem_toArray, List.getElem_cons_succ, List.getElem_cons_zero]
    try simp only [Act.put, List.setIfInBounds_toArray, List.set_cons_zero, List.set_cons_succ]
    refine wpAnyH_take (i := 6) (v := ?_) rfl (by kernel_rfl) (by kernel_rfl) (by kernel_rfl) (fun _ _ _ h => h) (Or.inl ⟨by rfl, ?_⟩) (by assumption) ?_
    rotate_left
    · intro w hSw
      try dsimp only at hSw
      simp only [List.getElem_toArray, List.getElem_cons_succ, List.getElem_cons_zero]
      go_simp
      try with_reducible rfl
    simp only [List.getElem_toArray, List.getElem_cons_succ, List.getElem_cons_zero]
    try simp only [Act.put, List.setIfInBounds_toArray, List.set_cons_zero, List.set_cons_succ]
    refine wpAnyH_take (i := 7) (v := ?_) rfl (by kernel_rfl) (by kernel_rfl) (by kernel_rfl) (fun _ _ _ h => h) (Or.inl ⟨by rfl, ?_⟩) (by assumption) ?_
    rotate_left
    · intro w hSw
      try dsimp only at hSw
      simp only [List.getElem_toArray, List.getElem_cons_succ, List.getElem_cons_zero]
      go_simp
      try with_reducible rfl
    simp only [List.getElem_toArray, List.getElem_cons_succ, List.getElem_cons_zero]
    try simp only [Act.put, List.setIfInBounds_toArray, List.set_cons_zero, List.set_cons_succ]
    refine wpAnyH_take (i := 8) (v := ?_) rfl (by kernel_rfl) (by kernel_rfl) (by kernel_rfl) (fun _ _ _ h => h) (Or.inl ⟨by rfl, ?_⟩) (by assumption) ?_
    rotate_left
    · intro w hSw
      try dsimp only at hSw
      simp only [List.getElem_toArray, List.getElem_cons_succ, List.getElem_cons_zero]
      go_simp
      try with_reducible rfl
    simp only [List.getElem_toArray, List.getElem_cons_succ, List.getElem_cons_zero]
    try simp only [Act.put, List.setIfInBounds_toArray, List.set_cons_zero, List.set_cons_succ]
    refine wpAnyH_take (i := 9) (v := ?_) rfl (by kernel_rfl) (by kernel_rfl) (by kernel_rfl) (fun _ _ _ h => h) (Or.inl ⟨by rfl, ?_⟩) (by assumption) ?_
    rotate_left
    · intro w hSw
      try dsimp only at hSw
      simp only [List.getElem_toArray, List.getElem_cons_succ, List.getElem_cons_zero]
      go_simp
      try with_reducible rfl
    simp only [List.getElem_toArray, List.getElem_cons_succ, List.getElem_cons_zero]
    try simp only [Act.put, List.setIfInBounds_toArray, List.set_cons_zero, List.set_cons_succ]
    refine wpAnyH_take (i := 11) (v := ?_) rfl (by kernel_rfl) (by kernel_rfl) (by kernel_rfl) (fun _ _ _ h => h) (Or.inl ⟨by rfl, ?_⟩) (by assumption) ?_
    rotate_left
    · intro w hSw
      try dsimp only at hSw
      simp only [List.getElem_toArray, List.getElem_cons_succ, List.getElem_cons_zero]
      go_simp
      try with_reducible rfl
    simp only [List.getElem_toArray, List.getElem_cons_succ, List.getElem_cons_zero]
    try simp only [Act.put, List.setIfInBounds_toArray, List.set_cons_zero, List.set_cons_succ]
    refine wpAnyH_take (i := 12) (v := ?_) rfl (by kernel_rfl) (by kernel_rfl) (by kernel_rfl) (fun _ _ _ h => h) (Or.inl ⟨by rfl, ?_⟩) (by assumption) ?_
    rotate_left
    · intro w hSw
      try dsimp only at hSw
      simp only [List.getElem_toArray, List.getElem_cons_succ, List.getElem_cons_zero]
      go_simp
      try with_reducible rfl
    simp only [List.getElem_toArray, List.getElem_cons_succ, List.getElem_cons_zero]
    try simp only [Act.put, List.setIfInBounds_toArray, List.set_cons_zero, List.set_cons_succ]
    refine wpAnyH_take (i := 13) (v := ?_) rfl (by kernel_rfl) (by kernel_rfl) (by kernel_rfl) (fun _ _ _ h => h) (Or.inl ⟨by rfl, ?_⟩) (by assumption) ?_
    rotate_left
    · intro w hSw
      try dsimp only at hSw
      simp only [List.getElem_toArray, List.getElem_cons_succ, List.getElem_cons_zero]
      go_simp
      try with_reducible rfl
    simp only [List.getElem_toArray, List.getElem_cons_succ, List.getElem_cons_zero]
    try simp only [Act.put, List.setIfInBounds_toArray, List.set_cons_zero, List.set_cons_succ]
    refine wpAnyH_take (i := 14) (v := ?_) rfl (by kernel_rfl) (by kernel_rfl) (by kernel_rfl) (fun _ _ _ h => h) (Or.inl ⟨by rfl, ?_⟩) (by assumption) ?_
    rotate_left
    · intro w hSw
      try dsimp only at hSw
      simp only [List.getElem_toArray, List.getElem_cons_succ, List.getElem_cons_zero]
      go_simp
      try with_reducible rfl
    simp only [List.getElem_toArray, List.getElem_cons_succ, List.getElem_cons_zero]
    try simp only [Act.put, List.setIfInBounds_toArray, List.set_cons_zero, List.set_cons_succ]
    generalize wb.drew = W0 at hI0 hHeld ⊢
    refine wpAnyH_ready (rs := [10, 15, 16]) (by kernel_rfl) (by simp) ?_
    refine AllReadyH.cons rfl (fun K hK => ?_) ?_
    · skip
      simp only [List.getElem_toArray, List.getElem_cons_succ, List.getElem_cons_zero]
      go_simp
      (go_at_call 34); refine (Hcl2.out _ hI0.kept).mono ?_; rintro e W1 ⟨Ac, cc, rfl, hb, hrb, had, hcc⟩
      have hI1 := hI0.clone hb hrb had hcc
      go_wp2_with fail
      refine hK.out _ _ (HS.out _ hI1.kept) (fun hHeld => ?_)
      clear hK K
      try simp only [List.getElem_toArray, List.getElem_cons_succ, List.getElem_cons_zero]
      try simp only [Act.put, List.setIfInBounds_toArray, List.set_cons_zero, List.set_cons_succ]
      refine wpAnyH_ready (rs := [15, 16]) (by kernel_rfl) (by simp) ?_
      refine AllReadyH.cons rfl (fun K hK => ?_) ?_
      · skip
        simp only [List.getElem_toArray, List.getElem_cons_succ, List.getElem_cons_zero]
        go_simp
        have hI2 := hI1.allocA (t := 35) rfl
        refine hK.out _ _ (HS.out _ hI2.kept) (fun hHeld => ?_)
        clear hK K
        try simp only [List.getElem_toArray, List.getElem_cons_succ, List.getElem_cons_zero]
        try simp only [Act.put, List.setIfInBounds_toArray, List.set_cons_zero, List.set_cons_succ]
        generalize W1.heap.size = bA at hI2 ⊢
        generalize W1.alloc (.cells #[.slice none 0 0] 35) = W2 at hI2 hHeld ⊢
        refine wpAnyH_ready (rs := [16]) (by kernel_rfl) (by simp) ?_
        refine AllReadyH.cons rfl (fun K hK => ?_) ?_
        · skip
          simp only [List.getElem_toArray, List.getElem_cons_succ, List.getElem_cons_zero]
          go_simp
          have hI3 := hI2.allocB (t := 3) rfl
          refine hK.out _ _ (HS.out _ hI3.kept) (fun hHeld => ?_)
          clear hK K
          try simp only [List.getElem_toArray, List.getElem_cons_succ, List.getElem_cons_zero]
          try simp only [Act.put, List.setIfInBounds_toArray, List.set_cons_zero, List.set_cons_succ]
          generalize W2.heap.size = bB at hI3 ⊢
          generalize W2.alloc (.cells #[.int .i64 0] 3) = W3 at hI3 hHeld ⊢
          refine wpAnyH_ready (rs := [17]) (by kernel_rfl) (by simp) ?_
          refine AllReadyH.cons rfl (fun K hK => ?_) ?_
          · skip
            simp only [List.getElem_toArray, List.getElem_cons_succ, List.getElem_cons_zero]
            obtain ⟨k1, k2⟩ := hI3.cellA
            go_simp
            have hI4 := hI3.storeA (.slice Ac n cc)
            refine hK.out _ _ (HS.out _ hI4.kept) (fun hHeld => ?_)
            clear hK K
            try simp only [List.getElem_toArray, List.getElem_cons_succ, List.getElem_cons_zero]
            try simp only [Act.put, List.setIfInBounds_toArray, List.set_cons_zero, List.set_cons_succ]
            clear k1 k2
            generalize W3.setCell ⟨bA, 0, none⟩ (.slice Ac n cc) = W4 at hI4 hHeld ⊢
            refine wpAnyH_ready (rs := [18]) (by kernel_rfl) (by simp) ?_
            refine AllReadyH.cons rfl (fun K hK => ?_) ?_
            · skip
              simp only [List.getElem_toArray, List.getElem_cons_succ, List.getElem_cons_zero]
              obtain ⟨k1, k2⟩ := hI4.cellB
              go_simp
              have hI5 := hI4.storeB (.int .i64 (pd : Int))
              refine hK.out _ _ (HS.out _ hI5.kept) (fun hHeld => ?_)
              clear hK K
              try simp only [List.getElem_toArray, List.getElem_cons_succ, List.getElem_cons_zero]
              try simp only [Act.put, List.setIfInBounds_toArray, List.set_cons_zero, List.set_cons_succ]
              clear k1 k2
              generalize W4.setCell ⟨bB, 0, none⟩ (.int .i64 (pd : Int)) = W5 at hI5 hHeld ⊢
              refine wpAnyH_done (by kernel_rfl) ?_ _
              refine NoPanic.normal ?_
              go_wp2_with fail
              go_meet
              exact ⟨bA, bB, Ac, cc, rfl, rfl, PutInv.mid hwn hI5⟩
            exact AllReadyH.nil
          exact AllReadyH.nil
        exact AllReadyH.nil
      refine AllReadyH.cons rfl (fun K hK => ?_) ?_
      · skip
        simp only [List.getElem_toArray, List.getElem_cons_succ, List.getElem_cons_zero]
        go_simp
        have hI2 := hI1.allocB (t := 3) rfl
        refine hK.out _ _ (HS.out _ hI2.kept) (fun hHeld => ?_)
        clear hK K
        try simp only [List.getElem_toArray, List.getElem_cons_succ, List.getElem_cons_zero]
        try simp only [Act.put, List.setIfInBounds_toArray, List.set_cons_zero, List.set_cons_succ]
        generalize W1.heap.size = bB at hI2 ⊢
        generalize W1.alloc (.cells #[.int .i64 0] 3) = W2 at hI2 hHeld ⊢
        refine wpAnyH_ready (rs := [15]) (by kernel_rfl) (by simp) ?_
        refine AllReadyH.cons rfl (fun K hK => ?_) ?_
        · skip
          simp only [List.getElem_toArray, List.getElem_cons_succ, List.getElem_cons_zero]
          go_simp
          have hI3 := hI2.allocA (t := 35) rfl
          refine hK.out _ _ (HS.out _ hI3.kept) (fun hHeld => ?_)
          clear hK K
          try simp only [List.getElem_toArray, List.getElem_cons_succ, List.getElem_cons_zero]
          try simp only [Act.put, List.setIfInBounds_toArray, List.set_cons_zero, List.set_cons_succ]
          generalize W2.heap.size = bA at hI3 ⊢
          generalize W2.alloc (.cells #[.slice none 0 0] 35) = W3 at hI3 hHeld ⊢
          refine wpAnyH_ready (rs := [17]) (by kernel_rfl) (by simp) ?_
          refine AllReadyH.cons rfl (fun K hK => ?_) ?_
          · skip
            simp only [List.getElem_toArray, List.getElem_cons_succ, List.getElem_cons_zero]
            obtain ⟨k1, k2⟩ := hI3.cellA
            go_simp
            have hI4 := hI3.storeA (.slice Ac n cc)
            refine hK.out _ _ (HS.out _ hI4.kept) (fun hHeld => ?_)
            clear hK K
            try simp only [List.getElem_toArray, List.getElem_cons_succ, List.getElem_cons_zero]
            try simp only [Act.put, List.setIfInBounds_toArray, List.set_cons_zero, List.set_cons_succ]
            clear k1 k2
            generalize W3.setCell ⟨bA, 0, none⟩ (.slice Ac n cc) = W4 at hI4 hHeld ⊢
            refine wpAnyH_ready (rs := [18]) (by kernel_rfl) (by simp) ?_
            refine AllReadyH.cons rfl (fun K hK => ?_) ?_
            · skip
              simp only [List.getElem_toArray, List.getElem_cons_succ, List.getElem_cons_zero]
              obtain ⟨k1, k2⟩ := hI4.cellB
              go_simp
              have hI5 := hI4.storeB (.int .i64 (pd : Int))
              refine hK.out _ _ (HS.out _ hI5.kept) (fun hHeld => ?_)
              clear hK K
              try simp only [List.getElem_toArray, List.getElem_cons_succ, List.getElem_cons_zero]
              try simp only [Act.put, List.setIfInBounds_toArray, List.set_cons_zero, List.set_cons_succ]
              clear k1 k2
              generalize W4.setCell ⟨bB, 0, none⟩ (.int .i64 (pd : Int)) = W5 at hI5 hHeld ⊢
              refine wpAnyH_done (by kernel_rfl) ?_ _
              refine NoPanic.normal ?_
              go_wp2_with fail
              go_meet
              exact ⟨bA, bB, Ac, cc, rfl, rfl, PutInv.mid hwn hI5⟩
            exact AllReadyH.nil
          exact AllReadyH.nil
        exact AllReadyH.nil
      exact AllReadyH.nil
    refine AllReadyH.cons rfl (fun K hK => ?_) ?_
    · skip
      simp only [List.getElem_toArray, List.getElem_cons_succ, List.getElem_cons_zero]
      go_simp
      have hI1 := hI0.allocA (t := 35) rfl
      refine hK.out _ _ (HS.out _ hI1.kept) (fun hHeld => ?_)
      clear hK K
      try simp only [List.getElem_toArray, List.getElem_cons_succ, List.getElem_cons_zero]
      try simp only [Act.put, List.setIfInBounds_toArray, List.set_cons_zero, List.set_cons_succ]
      generalize W0.heap.size = bA at hI1 ⊢
      generalize W0.alloc (.cells #[.slice none 0 0] 35) = W1 at hI1 hHeld ⊢
      refine wpAnyH_ready (rs := [10, 16]) (by kernel_rfl) (by simp) ?_
      refine AllReadyH.cons rfl (fun K hK => ?_) ?_
      · skip
        simp only [List.getElem_toArray, List.getElem_cons_succ, List.getElem_cons_zero]
        go_simp
        (go_at_call 34); refine (Hcl2.out _ hI1.kept).mono ?_; rintro e W2 ⟨Ac, cc, rfl, hb, hrb, had, hcc⟩
        have hI2 := hI1.clone hb hrb had hcc
        go_wp2_with fail
        refine hK.out _ _ (HS.out _ hI2.kept) (fun hHeld => ?_)
        clear hK K
        try simp only [List.getElem_toArray, List.getElem_cons_succ, List.getElem_cons_zero]
        try simp only [Act.put, List.setIfInBounds_toArray, List.set_cons_zero, List.set_cons_succ]
        refine wpAnyH_ready (rs := [16]) (by kernel_rfl) (by simp) ?_
        refine AllReadyH.cons rfl (fun K hK => ?_) ?_
        · skip
          simp only [List.getElem_toArray, List.getElem_cons_succ, List.getElem_cons_zero]
          go_simp
          have hI3 := hI2.allocB (t := 3) rfl
          refine hK.out _ _ (HS.out _ hI3.kept) (fun hHeld => ?_)
          clear hK K
          try simp only [List.getElem_toArray, List.getElem_cons_succ, List.getElem_cons_zero]
          try simp only [Act.put, List.setIfInBounds_toArray, List.set_cons_zero, List.set_cons_succ]
          generalize W2.heap.size = bB at hI3 ⊢
          generalize W2.alloc (.cells #[.int .i64 0] 3) = W3 at hI3 hHeld ⊢
          refine wpAnyH_ready (rs := [17]) (by kernel_rfl) (by simp) ?_
          refine AllReadyH.cons rfl (fun K hK => ?_) ?_
          · skip
            simp only [List.getElem_toArray, List.getElem_cons_succ, List.getElem_cons_zero]
            obtain ⟨k1, k2⟩ := hI3.cellA
            go_simp
            have hI4 := hI3.storeA (.slice Ac n cc)
            refine hK.out _ _ (HS.out _ hI4.kept) (fun hHeld => ?_)
            clear hK K
            try simp only [List.getElem_toArray, List.getElem_cons_succ, List.getElem_cons_zero]
            try simp only [Act.put, List.setIfInBounds_toArray, List.set_cons_zero, List.set_cons_succ]
            clear k1 k2
            generalize W3.setCell ⟨bA, 0, none⟩ (.slice Ac n cc) = W4 at hI4 hHeld ⊢
            refine wpAnyH_ready (rs := [18]) (by kernel_rfl) (by simp) ?_
            refine AllReadyH.cons rfl (fun K hK => ?_) ?_
            · skip
              simp only [List.getElem_toArray, List.getElem_cons_succ, List.getElem_cons_zero]
              obtain ⟨k1, k2⟩ := hI4.cellB
              go_simp
              have hI5 := hI4.storeB (.int .i64 (pd : Int))
              refine hK.out _ _ (HS.out _ hI5.kept) (fun hHeld => ?_)
              clear hK K
              try simp only [List.getElem_toArray, List.getElem_cons_succ, List.getElem_cons_zero]
              try simp only [Act.put, List.setIfInBounds_toArray, List.set_cons_zero, List.set_cons_succ]
              clear k1 k2
              generalize W4.setCell ⟨bB, 0, none⟩ (.int .i64 (pd : Int)) = W5 at hI5 hHeld ⊢
              refine wpAnyH_done (by kernel_rfl) ?_ _
              refine NoPanic.normal ?_
              go_wp2_with fail
              go_meet
              exact ⟨bA, bB, Ac, cc, rfl, rfl, PutInv.mid hwn hI5⟩
            exact AllReadyH.nil
          exact AllReadyH.nil
        exact AllReadyH.nil
      refine AllReadyH.cons rfl (fun K hK => ?_) ?_
      · skip
        simp only [List.getElem_toArray, List.getElem_cons_succ, List.getElem_cons_zero]
        go_simp
        have hI2 := hI1.allocB (t := 3) rfl
        refine hK.out _ _ (HS.out _ hI2.kept) (fun hHeld => ?_)
        clear hK K
        try simp only [List.getElem_toArray, List.getElem_cons_succ, List.getElem_cons_zero]
        try simp only [Act.put, List.setIfInBounds_toArray, List.set_cons_zero, List.set_cons_succ]
        generalize W1.heap.size = bB at hI2 ⊢
        generalize W1.alloc (.cells #[.int .i64 0] 3) = W2 at hI2 hHeld ⊢
        refine wpAnyH_ready (rs := [10]) (by kernel_rfl) (by simp) ?_
        refine AllReadyH.cons rfl (fun K hK => ?_) ?_
        · skip
          simp only [List.getElem_toArray, List.getElem_cons_succ, List.getElem_cons_zero]
          go_simp
          (go_at_call 34); refine (Hcl2.out _ hI2.kept).mono ?_; rintro e W3 ⟨Ac, cc, rfl, hb, hrb, had, hcc⟩
          have hI3 := hI2.clone hb hrb had hcc
          go_wp2_with fail
          refine hK.out _ _ (HS.out _ hI3.kept) (fun hHeld => ?_)
          clear hK K
          try simp only [List.getElem_toArray, List.getElem_cons_succ, List.getElem_cons_zero]
          try simp only [Act.put, List.setIfInBounds_toArray, List.set_cons_zero, List.set_cons_succ]
          refine wpAnyH_ready (rs := [17]) (by kernel_rfl) (by simp) ?_
          refine AllReadyH.cons rfl (fun K hK => ?_) ?_
          · skip
            simp only [List.getElem_toArray, List.getElem_cons_succ, List.getElem_cons_zero]
            obtain ⟨k1, k2⟩ := hI3.cellA
            go_simp
            have hI4 := hI3.storeA (.slice Ac n cc)
            refine hK.out _ _ (HS.out _ hI4.kept) (fun hHeld => ?_)
            clear hK K
            try simp only [List.getElem_toArray, List.getElem_cons_succ, List.getElem_cons_zero]
            try simp only [Act.put, List.setIfInBounds_toArray, List.set_cons_zero, List.set_cons_succ]
            clear k1 k2
            generalize W3.setCell ⟨bA, 0, none⟩ (.slice Ac n cc) = W4 at hI4 hHeld ⊢
            refine wpAnyH_ready (rs := [18]) (by kernel_rfl) (by simp) ?_
            refine AllReadyH.cons rfl (fun K hK => ?_) ?_
            · skip
              simp only [List.getElem_toArray, List.getElem_cons_succ, List.getElem_cons_zero]
              obtain ⟨k1, k2⟩ := hI4.cellB
              go_simp
              have hI5 := hI4.storeB (.int .i64 (pd : Int))
              refine hK.out _ _ (HS.out _ hI5.kept) (fun hHeld => ?_)
              clear hK K
              try simp only [List.getElem_toArray, List.getElem_cons_succ, List.getElem_cons_zero]
              try simp only [Act.put, List.setIfInBounds_toArray, List.set_cons_zero, List.set_cons_succ]
              clear k1 k2
              generalize W4.setCell ⟨bB, 0, none⟩ (.int .i64 (pd : Int)) = W5 at hI5 hHeld ⊢
              refine wpAnyH_done (by kernel_rfl) ?_ _
              refine NoPanic.normal ?_
              go_wp2_with fail
              go_meet
              exact ⟨bA, bB, Ac, cc, rfl, rfl, PutInv.mid hwn hI5⟩
            exact AllReadyH.nil
          exact AllReadyH.nil
        exact AllReadyH.nil
      exact AllReadyH.nil
    refine AllReadyH.cons rfl (fun K hK => ?_) ?_
    · skip
      simp only [List.getElem_toArray, List.getElem_cons_succ, List.getElem_cons_zero]
      go_simp
      have hI1 := hI0.allocB (t := 3) rfl
      refine hK.out _ _ (HS.out _ hI1.kept) (fun hHeld => ?_)
      clear hK K
      try simp only [List.getElem_toArray, List.getElem_cons_succ, List.getElem_cons_zero]
      try simp only [Act.put, List.setIfInBounds_toArray, List.set_cons_zero, List.set_cons_succ]
      generalize W0.heap.size = bB at hI1 ⊢
      generalize W0.alloc (.cells #[.int .i64 0] 3) = W1 at hI1 hHeld ⊢
      refine wpAnyH_ready (rs := [10, 15]) (by kernel_rfl) (by simp) ?_
      refine AllReadyH.cons rfl (fun K hK => ?_) ?_
      · skip
        simp only [List.getElem_toArray, List.getElem_cons_succ, List.getElem_cons_zero]
        go_simp
        (go_at_call 34); refine (Hcl2.out _ hI1.kept).mono ?_; rintro e W2 ⟨Ac, cc, rfl, hb, hrb, had, hcc⟩
        have hI2 := hI1.clone hb hrb had hcc
        go_wp2_with fail
        refine hK.out _ _ (HS.out _ hI2.kept) (fun hHeld => ?_)
        clear hK K
        try simp only [List.getElem_toArray, List.getElem_cons_succ, List.getElem_cons_zero]
        try simp only [Act.put, List.setIfInBounds_toArray, List.set_cons_zero, List.set_cons_succ]
        refine wpAnyH_ready (rs := [15]) (by kernel_rfl) (by simp) ?_
        refine AllReadyH.cons rfl (fun K hK => ?_) ?_
        · skip
          simp only [List.getElem_toArray, List.getElem_cons_succ, List.getElem_cons_zero]
          go_simp
          have hI3 := hI2.allocA (t := 35) rfl
          refine hK.out _ _ (HS.out _ hI3.kept) (fun hHeld => ?_)
          clear hK K
          try simp only [List.getElem_toArray, List.getElem_cons_succ, List.getElem_cons_zero]
          try simp only [Act.put, List.setIfInBounds_toArray, List.set_cons_zero, List.set_cons_succ]
          generalize W2.heap.size = bA at hI3 ⊢
          generalize W2.alloc (.cells #[.slice none 0 0] 35) = W3 at hI3 hHeld ⊢
          refine wpAnyH_ready (rs := [17]) (by kernel_rfl) (by simp) ?_
          refine AllReadyH.cons rfl (fun K hK => ?_) ?_
          · skip
            simp only [List.getElem_toArray, List.getElem_cons_succ, List.getElem_cons_zero]
            obtain ⟨k1, k2⟩ := hI3.cellA
            go_simp
            have hI4 := hI3.storeA (.slice Ac n cc)
            refine hK.out _ _ (HS.out _ hI4.kept) (fun hHeld => ?_)
            clear hK K
            try simp only [List.getElem_toArray, List.getElem_cons_succ, List.getElem_cons_zero]
            try simp only [Act.put, List.setIfInBounds_toArray, List.set_cons_zero, List.set_cons_succ]
            clear k1 k2
            generalize W3.setCell ⟨bA, 0, none⟩ (.slice Ac n cc) = W4 at hI4 hHeld ⊢
            refine wpAnyH_ready (rs := [18]) (by kernel_rfl) (by simp) ?_
            refine AllReadyH.cons rfl (fun K hK => ?_) ?_
            · skip
              simp only [List.getElem_toArray, List.getElem_cons_succ, List.getElem_cons_zero]
              obtain ⟨k1, k2⟩ := hI4.cellB
              go_simp
              have hI5 := hI4.storeB (.int .i64 (pd : Int))
              refine hK.out _ _ (HS.out _ hI5.kept) (fun hHeld => ?_)
              clear hK K
              try simp only [List.getElem_toArray, List.getElem_cons_succ, List.getElem_cons_zero]
              try simp only [Act.put, List.setIfInBounds_toArray, List.set_cons_zero, List.set_cons_succ]
              clear k1 k2
              generalize W4.setCell ⟨bB, 0, none⟩ (.int .i64 (pd : Int)) = W5 at hI5 hHeld ⊢
              refine wpAnyH_done (by kernel_rfl) ?_ _
              refine NoPanic.normal ?_
              go_wp2_with fail
              go_meet
              exact ⟨bA, bB, Ac, cc, rfl, rfl, PutInv.mid hwn hI5⟩
            exact AllReadyH.nil
          exact AllReadyH.nil
        exact AllReadyH.nil
      refine AllReadyH.cons rfl (fun K hK => ?_) ?_
      · skip
        simp only [List.getElem_toArray, List.getElem_cons_succ, List.getElem_cons_zero]
        go_simp
        have hI2 := hI1.allocA (t := 35) rfl
        refine hK.out _ _ (HS.out _ hI2.kept) (fun hHeld => ?_)
        clear hK K
        try simp only [List.getElem_toArray, List.getElem_cons_succ, List.getElem_cons_zero]
        try simp only [Act.put, List.setIfInBounds_toArray, List.set_cons_zero, List.set_cons_succ]
        generalize W1.heap.size = bA at hI2 ⊢
        generalize W1.alloc (.cells #[.slice none 0 0] 35) = W2 at hI2 hHeld ⊢
        refine wpAnyH_ready (rs := [10]) (by kernel_rfl) (by simp) ?_
        refine AllReadyH.cons rfl (fun K hK => ?_) ?_
        · skip
          simp only [List.getElem_toArray, List.getElem_cons_succ, List.getElem_cons_zero]
          go_simp
          (go_at_call 34); refine (Hcl2.out _ hI2.kept).mono ?_; rintro e W3 ⟨Ac, cc, rfl, hb, hrb, had, hcc⟩
          have hI3 := hI2.clone hb hrb had hcc
          go_wp2_with fail
          refine hK.out _ _ (HS.out _ hI3.kept) (fun hHeld => ?_)
          clear hK K
          try simp only [List.getElem_toArray, List.getElem_cons_succ, List.getElem_cons_zero]
          try simp only [Act.put, List.setIfInBounds_toArray, List.set_cons_zero, List.set_cons_succ]
          refine wpAnyH_ready (rs := [17]) (by kernel_rfl) (by simp) ?_
          refine AllReadyH.cons rfl (fun K hK => ?_) ?_
          · skip
            simp only [List.getElem_toArray, List.getElem_cons_succ, List.getElem_cons_zero]
            obtain ⟨k1, k2⟩ := hI3.cellA
            go_simp
            have hI4 := hI3.storeA (.slice Ac n cc)
            refine hK.out _ _ (HS.out _ hI4.kept) (fun hHeld => ?_)
            clear hK K
            try simp only [List.getElem_toArray, List.getElem_cons_succ, List.getElem_cons_zero]
            try simp only [Act.put, List.setIfInBounds_toArray, List.set_cons_zero, List.set_cons_succ]
            clear k1 k2
            generalize W3.setCell ⟨bA, 0, none⟩ (.slice Ac n cc) = W4 at hI4 hHeld ⊢
            refine wpAnyH_ready (rs := [18]) (by kernel_rfl) (by simp) ?_
            refine AllReadyH.cons rfl (fun K hK => ?_) ?_
            · skip
              simp only [List.getElem_toArray, List.getElem_cons_succ, List.getElem_cons_zero]
              obtain ⟨k1, k2⟩ := hI4.cellB
              go_simp
              have hI5 := hI4.storeB (.int .i64 (pd : Int))
              refine hK.out _ _ (HS.out _ hI5.kept) (fun hHeld => ?_)
              clear hK K
              try simp only [List.getElem_toArray, List.getElem_cons_succ, List.getElem_cons_zero]
              try simp only [Act.put, List.setIfInBounds_toArray, List.set_cons_zero, List.set_cons_succ]
              clear k1 k2
              generalize W4.setCell ⟨bB, 0, none⟩ (.int .i64 (pd : Int)) = W5 at hI5 hHeld ⊢
              refine wpAnyH_done (by kernel_rfl) ?_ _
              refine NoPanic.normal ?_
              go_wp2_with fail
              go_meet
              exact ⟨bA, bB, Ac, cc, rfl, rfl, PutInv.mid hwn hI5⟩
            exact AllReadyH.nil
          exact AllReadyH.nil
        exact AllReadyH.nil
      exact AllReadyH.nil
    exact AllReadyH.nil
  case rest =>
    obtain ⟨b6, b7, Ac, cc, rfl, rfl, hmid⟩ := hcut
    obtain ⟨m1, m2, m3, m4, m5, m6, m7, m8, m9⟩ := hmid.out
    have mv : ∀ {b i : Nat} {v : Value}, wb.cell? ⟨b, i, none⟩ = some v → wc.cell? ⟨b, i, none⟩ = some v := fun hv => (World.cell?_of_block (w := wb) (m1.block _ (cell_lt hv) (cell_lt hv))).trans hv
    have z3 := mv x3
    have zn2 := mv y2
    have Hown2 := Lib.hid (Hown.out wc m1)
    obtain ⟨Au, cu, rfl⟩ := Huv.out
    have HZ : Hid (∀ o : Obj, (wc.alloc o).cell? ⟨b3, 0, none⟩ = some (.pointer (some ⟨nv, 0, none⟩))) := fun o => (World.cell?_alloc_lt wc o ⟨b3, 0, none⟩ (cell_lt z3)).trans z3
    have hal2 : ∀ o : Obj, (wc.alloc o).cell? ⟨nv, 2, none⟩ = some (.slice Au vs.length cu) := fun o => (World.cell?_alloc_lt wc o ⟨nv, 2, none⟩ (cell_lt zn2)).trans zn2
    have hmf : ∀ (fn : Fn) (first cap : Array Value) (w : World), (Instr.makeFunc fn first cap).run Tryd.prog w = .ok (.func fn first cap) w := fun _ _ _ _ => rfl
    rw [← hN, ← hn] at Hfin
    have hpd : (D.pending : Int) + (n : Int) ≤ 1099511627776 := by omega
    clear h hr hA hf hp hnil hl1 c1 t1 c2 t2 o1 o2 o3 o4 hwb hkb hsb hn0 hhi hwl Hcl hwas hN hn hb3 Hown Huv hnvlt y2 m1 m2 m3 m4 m5 m6 m7 m8 m9 mv Hcl2 Hkept
    generalize D.pending = pd at *
    have hwp : IntKind.i64.wrap ((pd : Int) + (n : Int)) = (pd : Int) + (n : Int) := IntWalk.i64_in _ (by omega)
    have hs10 : (at_ : Int) ≤ (N : Int) := by omega
    have hs11 : at_ ≤ N := by omega
    go_wp2_with fail
    refine wp_region_noPanic ?_
    refine wp_region_held_drew (S := (fun W => W.cell? ⟨b3, 0, none⟩ = some (.pointer (some ⟨nv, 0, none⟩)))) (by kernel_rfl) ?_ (fun hHeld => ?_)
    · try dsimp only
      (first | exact z3 | exact HZ.out _ | exact s3 | exact e3)
    refine wpAnyH_take (i := 0) (v := ?_) rfl (by kernel_rfl) (by kernel_rfl) (by kernel_rfl) (fun _ _ _ h => h) (Or.inl ⟨by rfl, ?_⟩) (by assumption) ?_
    rotate_left
    · intro w hSw
      try dsimp only at hSw
      simp only [List.getElem_toArray, List.getElem_cons_succ, List.getElem_cons_zero]
      go_simp
      try with_reducible rfl
    simp only [List.getElem_toArray, List.getElem_cons_succ, List.getElem_cons_zero]
    try simp only [Act.put, List.setIfInBounds_toArray, List.set_cons_zero, List.set_cons_succ]
    refine wpAnyH_take (i := 1) (v := ?_) rfl (by kernel_rfl) (by kernel_rfl) (by kernel_rfl) (fun _ _ _ h => h) (Or.inl ⟨by rfl, ?_⟩) (by assumption) ?_
    rotate_left
    · intro w hSw
      try dsimp only at hSw
      simp only [List.getElem_toArray, List.getElem_cons_succ, List.getElem_cons_zero]
      go_simp
      try with_reducible rfl
    simp only [List.getElem_toArray, List.getElem_cons_succ, List.getElem_cons_zero]
    try simp only [Act.put, List.setIfInBounds_toArray, List.set_cons_zero, List.set_cons_succ]
    refine wpAnyH_take (i := 2) (v := ?_) rfl (by kernel_rfl) (by kernel_rfl) (by kernel_rfl) (fun _ _ _ h => h) (Or.inl ⟨by rfl, ?_⟩) (by assumption) ?_
    rotate_left
    · intro w hSw
      try dsimp only at hSw
      simp only [List.getElem_toArray, List.getElem_cons_succ, List.getElem_cons_zero]
      go_simp
      try with_reducible rfl
    simp only [List.getElem_toArray, List.getElem_cons_succ, List.getElem_cons_zero]
    try simp only [Act.put, List.setIfInBounds_toArray, List.set_cons_zero, List.set_cons_succ]
    refine wpAnyH_take (i := 3) (v := ?_) rfl (by kernel_rfl) (by kernel_rfl) (by kernel_rfl) (fun _ _ _ h => h) (Or.inl ⟨by rfl, ?_⟩) (by assumption) ?_
    rotate_left
    · intro w hSw
      try dsimp only at hSw
      simp only [List.getElem_toArray, List.getElem_cons_succ, List.getElem_cons_zero]
      go_simp
      try with_reducible rfl
    simp only [List.getElem_toArray, List.getElem_cons_succ, List.getElem_cons_zero]
    try simp only [Act.put, List.setIfInBounds_toArray, List.set_cons_zero, List.set_cons_succ]
    refine wpAnyH_take (i := 5) (v := ?_) rfl (by kernel_rfl) (by kernel_rfl) (by kernel_rfl) (fun _ _ _ h => h) (Or.inl ⟨by rfl, ?_⟩) (by assumption) ?_
    rotate_left
    · intro w hSw
      try dsimp only at hSw
      simp only [List.getElem_toArray, List.getElem_cons_succ, List.getElem_cons_zero]
      go_simp
      try with_reducible rfl
    simp only [List.getElem_toArray, List.getElem_cons_succ, List.getElem_cons_zero]
    try simp only [Act.put, List.setIfInBounds_toArray, List.set_cons_zero, List.set_cons_succ]
    refine wpAnyH_ready (rs := [4, 6]) (by kernel_rfl) (by simp) ?_
    refine AllReadyH.cons rfl (fun K hK => ?_) ?_
    · skip
      simp only [List.getElem_toArray, List.getElem_cons_succ, List.getElem_cons_zero]
      go_simp
      refine hK.out _ _ ?_ (fun hHeld => ?_)
      · try dsimp only
        (first | exact z3 | exact HZ.out _ | exact s3 | exact e3)
      clear hK K
      try simp only [List.getElem_toArray, List.getElem_cons_succ, List.getElem_cons_zero]
      try simp only [Act.put, List.setIfInBounds_toArray, List.set_cons_zero, List.set_cons_succ]
      refine wpAnyH_ready (rs := [6]) (by kernel_rfl) (by simp) ?_
      refine AllReadyH.cons rfl (fun K hK => ?_) ?_
      · skip
        simp only [List.getElem_toArray, List.getElem_cons_succ, List.getElem_cons_zero]
        go_simp
        refine hK.out _ _ ?_ (fun hHeld => ?_)
        · try dsimp only
          (first | exact z3 | exact HZ.out _ | exact s3 | exact e3)
        clear hK K
        try simp only [List.getElem_toArray, List.getElem_cons_succ, List.getElem_cons_zero]
        try simp only [Act.put, List.setIfInBounds_toArray, List.set_cons_zero, List.set_cons_succ]
        refine wpAnyH_ready (rs := [7]) (by kernel_rfl) (by simp) ?_
        refine AllReadyH.cons rfl (fun K hK => ?_) ?_
        · skip
          (skip; (refine step_app_one (by rfl) (.tmp 30) (.tmp 32) 52 162 (by rfl) Tryd.underlying52 .nilFunc 8 info_undo rfl 0 (.slice Au vs.length cu) vs (by rfl) (OwnV.alloc (w := wc.drew) Hown2.out _) ⟨wc.heap.size, 0, none⟩ 1 (undoV b7 b6 b3 (b3 + 1)) (by rfl) (cell_new _ _ _) rfl (by have := Hvl.out; omega) (by have := Hvl.out; omega) (Nat.zero_le _) ?_); intro v9 W9 hown9 hg9 hb9)
          obtain ⟨s3, s2, sf, e3, e4, e1, en3, W11, hcp, f3, ff, hS11, hS12, Hend⟩ := Hfin.out wc W9 b6 b7 cc v9 Ac _ hmid.out hown9 ⟨hg9.os, hg9.tape, hg9.output, hg9.size, hg9.block⟩ hb9
          obtain ⟨A9, n9, c9, rfl⟩ : ∃ A n c, v9 = Value.slice A n c := (by obtain ⟨A9, c9, e9, _⟩ := hown9.rd; exact ⟨_, _, _, e9⟩)
          refine hK.out _ _ ?_ (fun hHeld => ?_)
          · try dsimp only
            (first | exact z3 | exact HZ.out _ | exact s3 | exact e3)
          clear hK K
          try simp only [List.getElem_toArray, List.getElem_cons_succ, List.getElem_cons_zero]
          try simp only [Act.put, List.setIfInBounds_toArray, List.set_cons_zero, List.set_cons_succ]
          refine wpAnyH_take (i := 8) (v := ?_) rfl (by kernel_rfl) (by kernel_rfl) (by kernel_rfl) (fun _ _ _ h => h) (Or.inl ⟨by rfl, ?_⟩) (by assumption) ?_
          rotate_left
          · intro w hSw
            try dsimp only at hSw
            simp only [List.getElem_toArray, List.getElem_cons_succ, List.getElem_cons_zero]
            go_simp
            try with_reducible rfl
          simp only [List.getElem_toArray, List.getElem_cons_succ, List.getElem_cons_zero]
          try simp only [Act.put, List.setIfInBounds_toArray, List.set_cons_zero, List.set_cons_succ]
          refine wpAnyH_take (i := 9) (v := ?_) rfl (by kernel_rfl) (by kernel_rfl) (by kernel_rfl) (fun _ _ _ h => h) (Or.inl ⟨by rfl, ?_⟩) (by assumption) ?_
          rotate_left
          · intro w hSw
            try dsimp only at hSw
            simp only [List.getElem_toArray, List.getElem_cons_succ, List.getElem_cons_zero]
            go_simp
            try with_reducible rfl
          simp only [List.getElem_toArray, List.getElem_cons_succ, List.getElem_cons_zero]
          try simp only [Act.put, List.setIfInBounds_toArray, List.set_cons_zero, List.set_cons_succ]
          refine wpAnyH_ready (rs := [10]) (by kernel_rfl) (by simp) ?_
          refine AllReadyH.cons rfl (fun K hK => ?_) ?_
          · skip
            simp only [List.getElem_toArray, List.getElem_cons_succ, List.getElem_cons_zero]
            go_simp
            refine hK.out _ _ ?_ (fun hHeld => ?_)
            · try dsimp only
              (first | exact z3 | exact HZ.out _ | exact s3 | exact e3)
            clear hK K
            try simp only [List.getElem_toArray, List.getElem_cons_succ, List.getElem_cons_zero]
            try simp only [Act.put, List.setIfInBounds_toArray, List.set_cons_zero, List.set_cons_succ]
            refine wpAnyH_done (by kernel_rfl) ?_ _
            refine NoPanic.normal ?_
            generalize hW10 : W9.setCell ⟨nv, 2, none⟩ (.slice A9 n9 c9) = W10 at e3 e4 e1 en3 hcp ⊢
            clear hW10 s3 s2 sf hown9 hg9 hb9
            go_wp2_with fail
            refine wp_region_noPanic ?_
            refine wp_region_held_drew (S := (fun W => W.cell? ⟨b3, 0, none⟩ = some (.pointer (some ⟨nv, 0, none⟩)) ∧ W.cell? ⟨b3 + 1, 0, none⟩ = some (.int .i64 (at_ : Int)) ∧ W.cell? ⟨nv, 1, none⟩ = some (.slice (some ⟨bb, 0, none⟩) N N))) (by kernel_rfl) ?_ (fun hHeld => ?_)
            · try dsimp only
              (first | exact ⟨e3, e4, e1⟩ | exact hS11 | exact hS12)
            refine wpAnyH_take (i := 0) (v := ?_) rfl (by kernel_rfl) (by kernel_rfl) (by kernel_rfl) (fun _ _ _ h => h) (Or.inl ⟨by rfl, ?_⟩) (by assumption) ?_
            rotate_left
            · intro w hSw
              try dsimp only at hSw
              simp only [List.getElem_toArray, List.getElem_cons_succ, List.getElem_cons_zero]
              go_simp
              try with_reducible rfl
            simp only [List.getElem_toArray, List.getElem_cons_succ, List.getElem_cons_zero]
            try simp only [Act.put, List.setIfInBounds_toArray, List.set_cons_zero, List.set_cons_succ]
            refine wpAnyH_take (i := 1) (v := ?_) rfl (by kernel_rfl) (by kernel_rfl) (by kernel_rfl) (fun _ _ _ h => h) (Or.inl ⟨by rfl, ?_⟩) (by assumption) ?_
            rotate_left
            · intro w hSw
              try dsimp only at hSw
              simp only [List.getElem_toArray, List.getElem_cons_succ, List.getElem_cons_zero]
              go_simp
              try with_reducible rfl
            simp only [List.getElem_toArray, List.getElem_cons_succ, List.getElem_cons_zero]
            try simp only [Act.put, List.setIfInBounds_toArray, List.set_cons_zero, List.set_cons_succ]
            refine wpAnyH_take (i := 2) (v := ?_) rfl (by kernel_rfl) (by kernel_rfl) (by kernel_rfl) (fun _ _ _ h => h) (Or.inl ⟨by rfl, ?_⟩) (by assumption) ?_
            rotate_left
            · intro w hSw
              try dsimp only at hSw
              simp only [List.getElem_toArray, List.getElem_cons_succ, List.getElem_cons_zero]
              go_simp
              try with_reducible rfl
            simp only [List.getElem_toArray, List.getElem_cons_succ, List.getElem_cons_zero]
            try simp only [Act.put, List.setIfInBounds_toArray, List.set_cons_zero, List.set_cons_succ]
            refine wpAnyH_take (i := 4) (v := ?_) rfl (by kernel_rfl) (by kernel_rfl) (by kernel_rfl) (fun _ _ _ h => h) (Or.inl ⟨by rfl, ?_⟩) (by assumption) ?_
            rotate_left
            · intro w hSw
              try dsimp only at hSw
              simp only [List.getElem_toArray, List.getElem_cons_succ, List.getElem_cons_zero]
              go_simp
              try with_reducible rfl
            simp only [List.getElem_toArray, List.getElem_cons_succ, List.getElem_cons_zero]
            try simp only [Act.put, List.setIfInBounds_toArray, List.set_cons_zero, List.set_cons_succ]
            refine wpAnyH_take (i := 5) (v := ?_) rfl (by kernel_rfl) (by kernel_rfl) (by kernel_rfl) (fun _ _ _ h => h) (Or.inl ⟨by rfl, ?_⟩) (by assumption) ?_
            rotate_left
            · intro w hSw
              try dsimp only at hSw
              simp only [List.getElem_toArray, List.getElem_cons_succ, List.getElem_cons_zero]
              go_simp
              try with_reducible rfl
            simp only [List.getElem_toArray, List.getElem_cons_succ, List.getElem_cons_zero]
            try simp only [Act.put, List.setIfInBounds_toArray, List.set_cons_zero, List.set_cons_succ]
            refine wpAnyH_take (i := 6) (v := ?_) rfl (by kernel_rfl) (by kernel_rfl) (by kernel_rfl) (fun _ _ _ h => h) (Or.inl ⟨by rfl, ?_⟩) (by assumption) ?_
            rotate_left
            · intro w hSw
              try dsimp only at hSw
              simp only [List.getElem_toArray, List.getElem_cons_succ, List.getElem_cons_zero]
              go_simp
              try with_reducible rfl
            simp only [List.getElem_toArray, List.getElem_cons_succ, List.getElem_cons_zero]
            try simp only [Act.put, List.setIfInBounds_toArray, List.set_cons_zero, List.set_cons_succ]
            refine wpAnyH_take (i := 7) (v := ?_) rfl (by kernel_rfl) (by kernel_rfl) (by kernel_rfl) (fun _ _ _ h => h) (Or.inl ⟨by rfl, ?_⟩) (by assumption) ?_
            rotate_left
            · intro w hSw
              try dsimp only at hSw
              simp only [List.getElem_toArray, List.getElem_cons_succ, List.getElem_cons_zero]
              go_simp
              try with_reducible rfl
            simp only [List.getElem_toArray, List.getElem_cons_succ, List.getElem_cons_zero]
            try simp only [Act.put, List.setIfInBounds_toArray, List.set_cons_zero, List.set_cons_succ]
            refine wpAnyH_take (i := 8) (v := ?_) rfl (by kernel_rfl) (by kernel_rfl) (by kernel_rfl) (fun _ _ _ h => h) (Or.inl ⟨by rfl, ?_⟩) (by assumption) ?_
            rotate_left
            · intro w hSw
              try dsimp only at hSw
              simp only [List.getElem_toArray, List.getElem_cons_succ, List.getElem_cons_zero]
              go_simp
              try with_reducible rfl
            simp only [List.getElem_toArray, List.getElem_cons_succ, List.getElem_cons_zero]
            try simp only [Act.put, List.setIfInBounds_toArray, List.set_cons_zero, List.set_cons_succ]
            refine wpAnyH_take (i := 9) (v := ?_) rfl (by kernel_rfl) (by kernel_rfl) (by kernel_rfl) (fun _ _ _ h => h) (Or.inl ⟨by rfl, ?_⟩) (by assumption) ?_
            rotate_left
            · intro w hSw
              try dsimp only at hSw
              simp only [List.getElem_toArray, List.getElem_cons_succ, List.getElem_cons_zero]
              go_simp
              try with_reducible rfl
            simp only [List.getElem_toArray, List.getElem_cons_succ, List.getElem_cons_zero]
            try simp only [Act.put, List.setIfInBounds_toArray, List.set_cons_zero, List.set_cons_succ]
            refine wpAnyH_take (i := 10) (v := ?_) rfl (by kernel_rfl) (by kernel_rfl) (by kernel_rfl) (fun _ _ _ h => h) (Or.inl ⟨by rfl, ?_⟩) (by assumption) ?_
            rotate_left
            · intro w hSw
              try dsimp only at hSw
              simp only [List.getElem_toArray, List.getElem_cons_succ, List.getElem_cons_zero]
              go_simp
              try with_reducible rfl
            simp only [List.getElem_toArray, List.getElem_cons_succ, List.getElem_cons_zero]
            try simp only [Act.put, List.setIfInBounds_toArray, List.set_cons_zero, List.set_cons_succ]
            refine wpAnyH_ready (rs := [3, 11]) (by kernel_rfl) (by simp) ?_
            refine AllReadyH.cons rfl (fun K hK => ?_) ?_
            · skip
              simp only [List.getElem_toArray, List.getElem_cons_succ, List.getElem_cons_zero]
              go_simp
              refine hK.out _ _ ?_ (fun hHeld => ?_)
              · try dsimp only
                (first | exact ⟨e3, e4, e1⟩ | exact hS11 | exact hS12)
              clear hK K
              try simp only [List.getElem_toArray, List.getElem_cons_succ, List.getElem_cons_zero]
              try simp only [Act.put, List.setIfInBounds_toArray, List.set_cons_zero, List.set_cons_succ]
              refine wpAnyH_ready (rs := [11]) (by kernel_rfl) (by simp) ?_
              refine AllReadyH.cons rfl (fun K hK => ?_) ?_
              · skip
                simp only [List.getElem_toArray, List.getElem_cons_succ, List.getElem_cons_zero]
                go_simp
                refine hK.out _ _ ?_ (fun hHeld => ?_)
                · try dsimp only
                  (first | exact ⟨e3, e4, e1⟩ | exact hS11 | exact hS12)
                clear hK K
                try simp only [List.getElem_toArray, List.getElem_cons_succ, List.getElem_cons_zero]
                try simp only [Act.put, List.setIfInBounds_toArray, List.set_cons_zero, List.set_cons_succ]
                refine wpAnyH_take (i := 12) (v := ?_) rfl (by kernel_rfl) (by kernel_rfl) (by kernel_rfl) (fun _ _ _ h => h) (Or.inl ⟨by rfl, ?_⟩) (by assumption) ?_
                rotate_left
                · intro w hSw
                  try dsimp only at hSw
                  simp only [List.getElem_toArray, List.getElem_cons_succ, List.getElem_cons_zero]
                  go_simp
                  try with_reducible rfl
                simp only [List.getElem_toArray, List.getElem_cons_succ, List.getElem_cons_zero]
                try simp only [Act.put, List.setIfInBounds_toArray, List.set_cons_zero, List.set_cons_succ]
                refine wpAnyH_take (i := 13) (v := ?_) rfl (by kernel_rfl) (by kernel_rfl) (by kernel_rfl) (fun _ _ _ h => h) (Or.inl ⟨by rfl, ?_⟩) (by assumption) ?_
                rotate_left
                · intro w hSw
                  try dsimp only at hSw
                  simp only [List.getElem_toArray, List.getElem_cons_succ, List.getElem_cons_zero]
                  go_simp
                  try with_reducible rfl
                simp only [List.getElem_toArray, List.getElem_cons_succ, List.getElem_cons_zero]
                try simp only [Act.put, List.setIfInBounds_toArray, List.set_cons_zero, List.set_cons_succ]
                refine wpAnyH_take (i := 14) (v := ?_) rfl (by kernel_rfl) (by kernel_rfl) (by kernel_rfl) (fun _ _ _ h => h) (Or.inl ⟨by rfl, ?_⟩) (by assumption) ?_
                rotate_left
                · intro w hSw
                  try dsimp only at hSw
                  simp only [List.getElem_toArray, List.getElem_cons_succ, List.getElem_cons_zero]
                  go_simp
                  try with_reducible rfl
                simp only [List.getElem_toArray, List.getElem_cons_succ, List.getElem_cons_zero]
                try simp only [Act.put, List.setIfInBounds_toArray, List.set_cons_zero, List.set_cons_succ]
                refine wpAnyH_ready (rs := [15]) (by kernel_rfl) (by simp) ?_
                refine AllReadyH.cons rfl (fun K hK => ?_) ?_
                · skip
                  simp only [List.getElem_toArray, List.getElem_cons_succ, List.getElem_cons_zero]
                  go_simp
                  refine hK.out _ _ ?_ (fun hHeld => ?_)
                  · try dsimp only
                    (first | exact ⟨e3, e4, e1⟩ | exact hS11 | exact hS12)
                  clear hK K
                  try simp only [List.getElem_toArray, List.getElem_cons_succ, List.getElem_cons_zero]
                  try simp only [Act.put, List.setIfInBounds_toArray, List.set_cons_zero, List.set_cons_succ]
                  refine wpAnyH_done (by kernel_rfl) ?_ _
                  refine NoPanic.normal ?_
                  go_wp2_with fail
                  go_end0
                  exact Hend.out
                exact AllReadyH.nil
              exact AllReadyH.nil
            refine AllReadyH.cons rfl (fun K hK => ?_) ?_
            · skip
              simp only [List.getElem_toArray, List.getElem_cons_succ, List.getElem_cons_zero]
              go_simp
              refine hK.out _ _ ?_ (fun hHeld => ?_)
              · try dsimp only
                (first | exact ⟨e3, e4, e1⟩ | exact hS11 | exact hS12)
              clear hK K
              try simp only [List.getElem_toArray, List.getElem_cons_succ, List.getElem_cons_zero]
              try simp only [Act.put, List.setIfInBounds_toArray, List.set_cons_zero, List.set_cons_succ]
              refine wpAnyH_ready (rs := [3]) (by kernel_rfl) (by simp) ?_
              refine AllReadyH.cons rfl (fun K hK => ?_) ?_
              · skip
                simp only [List.getElem_toArray, List.getElem_cons_succ, List.getElem_cons_zero]
                go_simp
                refine hK.out _ _ ?_ (fun hHeld => ?_)
                · try dsimp only
                  (first | exact ⟨e3, e4, e1⟩ | exact hS11 | exact hS12)
                clear hK K
                try simp only [List.getElem_toArray, List.getElem_cons_succ, List.getElem_cons_zero]
                try simp only [Act.put, List.setIfInBounds_toArray, List.set_cons_zero, List.set_cons_succ]
                refine wpAnyH_take (i := 12) (v := ?_) rfl (by kernel_rfl) (by kernel_rfl) (by kernel_rfl) (fun _ _ _ h => h) (Or.inl ⟨by rfl, ?_⟩) (by assumption) ?_
                rotate_left
                · intro w hSw
                  try dsimp only at hSw
                  simp only [List.getElem_toArray, List.getElem_cons_succ, List.getElem_cons_zero]
                  go_simp
                  try with_reducible rfl
                simp only [List.getElem_toArray, List.getElem_cons_succ, List.getElem_cons_zero]
                try simp only [Act.put, List.setIfInBounds_toArray, List.set_cons_zero, List.set_cons_succ]
                refine wpAnyH_take (i := 13) (v := ?_) rfl (by kernel_rfl) (by kernel_rfl) (by kernel_rfl) (fun _ _ _ h => h) (Or.inl ⟨by rfl, ?_⟩) (by assumption) ?_
                rotate_left
                · intro w hSw
                  try dsimp only at hSw
                  simp only [List.getElem_toArray, List.getElem_cons_succ, List.getElem_cons_zero]
                  go_simp
                  try with_reducible rfl
                simp only [List.getElem_toArray, List.getElem_cons_succ, List.getElem_cons_zero]
                try simp only [Act.put, List.setIfInBounds_toArray, List.set_cons_zero, List.set_cons_succ]
                refine wpAnyH_take (i := 14) (v := ?_) rfl (by kernel_rfl) (by kernel_rfl) (by kernel_rfl) (fun _ _ _ h => h) (Or.inl ⟨by rfl, ?_⟩) (by assumption) ?_
                rotate_left
                · intro w hSw
                  try dsimp only at hSw
                  simp only [List.getElem_toArray, List.getElem_cons_succ, List.getElem_cons_zero]
                  go_simp
                  try with_reducible rfl
                simp only [List.getElem_toArray, List.getElem_cons_succ, List.getElem_cons_zero]
                try simp only [Act.put, List.setIfInBounds_toArray, List.set_cons_zero, List.set_cons_succ]
                refine wpAnyH_ready (rs := [15]) (by kernel_rfl) (by simp) ?_
                refine AllReadyH.cons rfl (fun K hK => ?_) ?_
                · skip
                  simp only [List.getElem_toArray, List.getElem_cons_succ, List.getElem_cons_zero]
                  go_simp
                  refine hK.out _ _ ?_ (fun hHeld => ?_)
                  · try dsimp only
                    (first | exact ⟨e3, e4, e1⟩ | exact hS11 | exact hS12)
                  clear hK K
                  try simp only [List.getElem_toArray, List.getElem_cons_succ, List.getElem_cons_zero]
                  try simp only [Act.put, List.setIfInBounds_toArray, List.set_cons_zero, List.set_cons_succ]
                  refine wpAnyH_done (by kernel_rfl) ?_ _
                  refine NoPanic.normal ?_
                  go_wp2_with fail
                  go_end0
                  exact Hend.out
                exact AllReadyH.nil
              exact AllReadyH.nil
            exact AllReadyH.nil
          exact AllReadyH.nil
        exact AllReadyH.nil
      exact AllReadyH.nil
    refine AllReadyH.cons rfl (fun K hK => ?_) ?_
    · skip
      simp only [List.getElem_toArray, List.getElem_cons_succ, List.getElem_cons_zero]
      go_simp
      refine hK.out _ _ ?_ (fun hHeld => ?_)
      · try dsimp only
        (first | exact z3 | exact HZ.out _ | exact s3 | exact e3)
      clear hK K
      try simp only [List.getElem_toArray, List.getElem_cons_succ, List.getElem_cons_zero]
      try simp only [Act.put, List.setIfInBounds_toArray, List.set_cons_zero, List.set_cons_succ]
      refine wpAnyH_ready (rs := [4]) (by kernel_rfl) (by simp) ?_
      refine AllReadyH.cons rfl (fun K hK => ?_) ?_
      · skip
        simp only [List.getElem_toArray, List.getElem_cons_succ, List.getElem_cons_zero]
        go_simp
        refine hK.out _ _ ?_ (fun hHeld => ?_)
        · try dsimp only
          (first | exact z3 | exact HZ.out _ | exact s3 | exact e3)
        clear hK K
        try simp only [List.getElem_toArray, List.getElem_cons_succ, List.getElem_cons_zero]
        try simp only [Act.put, List.setIfInBounds_toArray, List.set_cons_zero, List.set_cons_succ]
        refine wpAnyH_ready (rs := [7]) (by kernel_rfl) (by simp) ?_
        refine AllReadyH.cons rfl (fun K hK => ?_) ?_
        · skip
          (skip; (refine step_app_one (by rfl) (.tmp 30) (.tmp 32) 52 162 (by rfl) Tryd.underlying52 .nilFunc 8 info_undo rfl 0 (.slice Au vs.length cu) vs (by rfl) (OwnV.alloc (w := wc.drew) Hown2.out _) ⟨wc.heap.size, 0, none⟩ 1 (undoV b7 b6 b3 (b3 + 1)) (by rfl) (cell_new _ _ _) rfl (by have := Hvl.out; omega) (by have := Hvl.out; omega) (Nat.zero_le _) ?_); intro v9 W9 hown9 hg9 hb9)
          obtain ⟨s3, s2, sf, e3, e4, e1, en3, W11, hcp, f3, ff, hS11, hS12, Hend⟩ := Hfin.out wc W9 b6 b7 cc v9 Ac _ hmid.out hown9 ⟨hg9.os, hg9.tape, hg9.output, hg9.size, hg9.block⟩ hb9
          obtain ⟨A9, n9, c9, rfl⟩ : ∃ A n c, v9 = Value.slice A n c := (by obtain ⟨A9, c9, e9, _⟩ := hown9.rd; exact ⟨_, _, _, e9⟩)
          refine hK.out _ _ ?_ (fun hHeld => ?_)
          · try dsimp only
            (first | exact z3 | exact HZ.out _ | exact s3 | exact e3)
          clear hK K
          try simp only [List.getElem_toArray, List.getElem_cons_succ, List.getElem_cons_zero]
          try simp only [Act.put, List.setIfInBounds_toArray, List.set_cons_zero, List.set_cons_succ]
          refine wpAnyH_take (i := 8) (v := ?_) rfl (by kernel_rfl) (by kernel_rfl) (by kernel_rfl) (fun _ _ _ h => h) (Or.inl ⟨by rfl, ?_⟩) (by assumption) ?_
          rotate_left
          · intro w hSw
            try dsimp only at hSw
            simp only [List.getElem_toArray, List.getElem_cons_succ, List.getElem_cons_zero]
            go_simp
            try with_reducible rfl
          simp only [List.getElem_toArray, List.getElem_cons_succ, List.getElem_cons_zero]
          try simp only [Act.put, List.setIfInBounds_toArray, List.set_cons_zero, List.set_cons_succ]
          refine wpAnyH_take (i := 9) (v := ?_) rfl (by kernel_rfl) (by kernel_rfl) (by kernel_rfl) (fun _ _ _ h => h) (Or.inl ⟨by rfl, ?_⟩) (by assumption) ?_
          rotate_left
          · intro w hSw
            try dsimp only at hSw
            simp only [List.getElem_toArray, List.getElem_cons_succ, List.getElem_cons_zero]
            go_simp
            try with_reducible rfl
          simp only [List.getElem_toArray, List.getElem_cons_succ, List.getElem_cons_zero]
          try simp only [Act.put, List.setIfInBounds_toArray, List.set_cons_zero, List.set_cons_succ]
          refine wpAnyH_ready (rs := [10]) (by kernel_rfl) (by simp) ?_
          refine AllReadyH.cons rfl (fun K hK => ?_) ?_
          · skip
            simp only [List.getElem_toArray, List.getElem_cons_succ, List.getElem_cons_zero]
            go_simp
            refine hK.out _ _ ?_ (fun hHeld => ?_)
            · try dsimp only
              (first | exact z3 | exact HZ.out _ | exact s3 | exact e3)
            clear hK K
            try simp only [List.getElem_toArray, List.getElem_cons_succ, List.getElem_cons_zero]
            try simp only [Act.put, List.setIfInBounds_toArray, List.set_cons_zero, List.set_cons_succ]
            refine wpAnyH_done (by kernel_rfl) ?_ _
            refine NoPanic.normal ?_
            generalize hW10 : W9.setCell ⟨nv, 2, none⟩ (.slice A9 n9 c9) = W10 at e3 e4 e1 en3 hcp ⊢
            clear hW10 s3 s2 sf hown9 hg9 hb9
            go_wp2_with fail
            refine wp_region_noPanic ?_
            refine wp_region_held_drew (S := (fun W => W.cell? ⟨b3, 0, none⟩ = some (.pointer (some ⟨nv, 0, none⟩)) ∧ W.cell? ⟨b3 + 1, 0, none⟩ = some (.int .i64 (at_ : Int)) ∧ W.cell? ⟨nv, 1, none⟩ = some (.slice (some ⟨bb, 0, none⟩) N N))) (by kernel_rfl) ?_ (fun hHeld => ?_)
            · try dsimp only
              (first | exact ⟨e3, e4, e1⟩ | exact hS11 | exact hS12)
            refine wpAnyH_take (i := 0) (v := ?_) rfl (by kernel_rfl) (by kernel_rfl) (by kernel_rfl) (fun _ _ _ h => h) (Or.inl ⟨by rfl, ?_⟩) (by assumption) ?_
            rotate_left
            · intro w hSw
              try dsimp only at hSw
              simp only [List.getElem_toArray, List.getElem_cons_succ, List.getElem_cons_zero]
              go_simp
              try with_reducible rfl
            simp only [List.getElem_toArray, List.getElem_cons_succ, List.getElem_cons_zero]
            try simp only [Act.put, List.setIfInBounds_toArray, List.set_cons_zero, List.set_cons_succ]
            refine wpAnyH_take (i := 1) (v := ?_) rfl (by kernel_rfl) (by kernel_rfl) (by kernel_rfl) (fun _ _ _ h => h) (Or.inl ⟨by rfl, ?_⟩) (by assumption) ?_
            rotate_left
            · intro w hSw
              try dsimp only at hSw
              simp only [List.getElem_toArray, List.getElem_cons_succ, List.getElem_cons_zero]
              go_simp
              try with_reducible rfl
            simp only [List.getElem_toArray, List.getElem_cons_succ, List.getElem_cons_zero]
            try simp only [Act.put, List.setIfInBounds_toArray, List.set_cons_zero, List.set_cons_succ]
            refine wpAnyH_take (i := 2) (v := ?_) rfl (by kernel_rfl) (by kernel_rfl) (by kernel_rfl) (fun _ _ _ h => h) (Or.inl ⟨by rfl, ?_⟩) (by assumption) ?_
            rotate_left
            · intro w hSw
              try dsimp only at hSw
              simp only [List.getElem_toArray, List.getElem_cons_succ, List.getElem_cons_zero]
              go_simp
              try with_reducible rfl
            simp only [List.getElem_toArray, List.getElem_cons_succ, List.getElem_cons_zero]
            try simp only [Act.put, List.setIfInBounds_toArray, List.set_cons_zero, List.set_cons_succ]
            refine wpAnyH_take (i := 4) (v := ?_) rfl (by kernel_rfl) (by kernel_rfl) (by kernel_rfl) (fun _ _ _ h => h) (Or.inl ⟨by rfl, ?_⟩) (by assumption) ?_
            rotate_left
            · intro w hSw
              try dsimp only at hSw
              simp only [List.getElem_toArray, List.getElem_cons_succ, List.getElem_cons_zero]
              go_simp
              try with_reducible rfl
            simp only [List.getElem_toArray, List.getElem_cons_succ, List.getElem_cons_zero]
            try simp only [Act.put, List.setIfInBounds_toArray, List.set_cons_zero, List.set_cons_succ]
            refine wpAnyH_take (i := 5) (v := ?_) rfl (by kernel_rfl) (by kernel_rfl) (by kernel_rfl) (fun _ _ _ h => h) (Or.inl ⟨by rfl, ?_⟩) (by assumption) ?_
            rotate_left
            · intro w hSw
              try dsimp only at hSw
              simp only [List.getElem_toArray, List.getElem_cons_succ, List.getElem_cons_zero]
              go_simp
              try with_reducible rfl
            simp only [List.getElem_toArray, List.getElem_cons_succ, List.getElem_cons_zero]
            try simp only [Act.put, List.setIfInBounds_toArray, List.set_cons_zero, List.set_cons_succ]
            refine wpAnyH_take (i := 6) (v := ?_) rfl (by kernel_rfl) (by kernel_rfl) (by kernel_rfl) (fun _ _ _ h => h) (Or.inl ⟨by rfl, ?_⟩) (by assumption) ?_
            rotate_left
            · intro w hSw
              try dsimp only at hSw
              simp only [List.getElem_toArray, List.getElem_cons_succ, List.getElem_cons_zero]
              go_simp
              try with_reducible rfl
            simp only [List.getElem_toArray, List.getElem_cons_succ, List.getElem_cons_zero]
            try simp only [Act.put, List.setIfInBounds_toArray, List.set_cons_zero, List.set_cons_succ]
            refine wpAnyH_take (i := 7) (v := ?_) rfl (by kernel_rfl) (by kernel_rfl) (by kernel_rfl) (fun _ _ _ h => h) (Or.inl ⟨by rfl, ?_⟩) (by assumption) ?_
            rotate_left
            · intro w hSw
              try dsimp only at hSw
              simp only [List.getElem_toArray, List.getElem_cons_succ, List.getElem_cons_zero]
              go_simp
              try with_reducible rfl
            simp only [List.getElem_toArray, List.getElem_cons_succ, List.getElem_cons_zero]
            try simp only [Act.put, List.setIfInBounds_toArray, List.set_cons_zero, List.set_cons_succ]
            refine wpAnyH_take (i := 8) (v := ?_) rfl (by kernel_rfl) (by kernel_rfl) (by kernel_rfl) (fun _ _ _ h => h) (Or.inl ⟨by rfl, ?_⟩) (by assumption) ?_
            rotate_left
            · intro w hSw
              try dsimp only at hSw
              simp only [List.getElem_toArray, List.getElem_cons_succ, List.getElem_cons_zero]
              go_simp
              try with_reducible rfl
            simp only [List.getElem_toArray, List.getElem_cons_succ, List.getElem_cons_zero]
            try simp only [Act.put, List.setIfInBounds_toArray, List.set_cons_zero, List.set_cons_succ]
            refine wpAnyH_take (i := 9) (v := ?_) rfl (by kernel_rfl) (by kernel_rfl) (by kernel_rfl) (fun _ _ _ h => h) (Or.inl ⟨by rfl, ?_⟩) (by assumption) ?_
            rotate_left
            · intro w hSw
              try dsimp only at hSw
              simp only [List.getElem_toArray, List.getElem_cons_succ, List.getElem_cons_zero]
              go_simp
              try with_reducible rfl
            simp only [List.getElem_toArray, List.getElem_cons_succ, List.getElem_cons_zero]
            try simp only [Act.put, List.setIfInBounds_toArray, List.set_cons_zero, List.set_cons_succ]
            refine wpAnyH_take (i := 10) (v := ?_) rfl (by kernel_rfl) (by kernel_rfl) (by kernel_rfl) (fun _ _ _ h => h) (Or.inl ⟨by rfl, ?_⟩) (by assumption) ?_
            rotate_left
            · intro w hSw
              try dsimp only at hSw
              simp only [List.getElem_toArray, List.getElem_cons_succ, List.getElem_cons_zero]
              go_simp
              try with_reducible rfl
            simp only [List.getElem_toArray, List.getElem_cons_succ, List.getElem_cons_zero]
            try simp only [Act.put, List.setIfInBounds_toArray, List.set_cons_zero, List.set_cons_succ]
            refine wpAnyH_ready (rs := [3, 11]) (by kernel_rfl) (by simp) ?_
            refine AllReadyH.cons rfl (fun K hK => ?_) ?_
            · skip
              simp only [List.getElem_toArray, List.getElem_cons_succ, List.getElem_cons_zero]
              go_simp
              refine hK.out _ _ ?_ (fun hHeld => ?_)
              · try dsimp only
                (first | exact ⟨e3, e4, e1⟩ | exact hS11 | exact hS12)
              clear hK K
              try simp only [List.getElem_toArray, List.getElem_cons_succ, List.getElem_cons_zero]
              try simp only [Act.put, List.setIfInBounds_toArray, List.set_cons_zero, List.set_cons_succ]
              refine wpAnyH_ready (rs := [11]) (by kernel_rfl) (by simp) ?_
              refine AllReadyH.cons rfl (fun K hK => ?_) ?_
              · skip
                simp only [List.getElem_toArray, List.getElem_cons_succ, List.getElem_cons_zero]
                go_simp
                refine hK.out _ _ ?_ (fun hHeld => ?_)
                · try dsimp only
                  (first | exact ⟨e3, e4, e1⟩ | exact hS11 | exact hS12)
                clear hK K
                try simp only [List.getElem_toArray, List.getElem_cons_succ, List.getElem_cons_zero]
                try simp only [Act.put, List.setIfInBounds_toArray, List.set_cons_zero, List.set_cons_succ]
                refine wpAnyH_take (i := 12) (v := ?_) rfl (by kernel_rfl) (by kernel_rfl) (by kernel_rfl) (fun _ _ _ h => h) (Or.inl ⟨by rfl, ?_⟩) (by assumption) ?_
                rotate_left
                · intro w hSw
                  try dsimp only at hSw
                  simp only [List.getElem_toArray, List.getElem_cons_succ, List.getElem_cons_zero]
                  go_simp
                  try with_reducible rfl
                simp only [List.getElem_toArray, List.getElem_cons_succ, List.getElem_cons_zero]
                try simp only [Act.put, List.setIfInBounds_toArray, List.set_cons_zero, List.set_cons_succ]
                refine wpAnyH_take (i := 13) (v := ?_) rfl (by kernel_rfl) (by kernel_rfl) (by kernel_rfl) (fun _ _ _ h => h) (Or.inl ⟨by rfl, ?_⟩) (by assumption) ?_
                rotate_left
                · intro w hSw
                  try dsimp only at hSw
                  simp only [List.getElem_toArray, List.getElem_cons_succ, List.getElem_cons_zero]
                  go_simp
                  try with_reducible rfl
                simp only [List.getElem_toArray, List.getElem_cons_succ, List.getElem_cons_zero]
                try simp only [Act.put, List.setIfInBounds_toArray, List.set_cons_zero, List.set_cons_succ]
                refine wpAnyH_take (i := 14) (v := ?_) rfl (by kernel_rfl) (by kernel_rfl) (by kernel_rfl) (fun _ _ _ h => h) (Or.inl ⟨by rfl, ?_⟩) (by assumption) ?_
                rotate_left
                · intro w hSw
                  try dsimp only at hSw
                  simp only [List.getElem_toArray, List.getElem_cons_succ, List.getElem_cons_zero]
                  go_simp
                  try with_reducible rfl
                simp only [List.getElem_toArray, List.getElem_cons_succ, List.getElem_cons_zero]
                try simp only [Act.put, List.setIfInBounds_toArray, List.set_cons_zero, List.set_cons_succ]
                refine wpAnyH_ready (rs := [15]) (by kernel_rfl) (by simp) ?_
                refine AllReadyH.cons rfl (fun K hK => ?_) ?_
                · skip
                  simp only [List.getElem_toArray, List.getElem_cons_succ, List.getElem_cons_zero]
                  go_simp
                  refine hK.out _ _ ?_ (fun hHeld => ?_)
                  · try dsimp only
                    (first | exact ⟨e3, e4, e1⟩ | exact hS11 | exact hS12)
                  clear hK K
                  try simp only [List.getElem_toArray, List.getElem_cons_succ, List.getElem_cons_zero]
                  try simp only [Act.put, List.setIfInBounds_toArray, List.set_cons_zero, List.set_cons_succ]
                  refine wpAnyH_done (by kernel_rfl) ?_ _
                  refine NoPanic.normal ?_
                  go_wp2_with fail
                  go_end0
                  exact Hend.out
                exact AllReadyH.nil
              exact AllReadyH.nil
            refine AllReadyH.cons rfl (fun K hK => ?_) ?_
            · skip
              simp only [List.getElem_toArray, List.getElem_cons_succ, List.getElem_cons_zero]
              go_simp
              refine hK.out _ _ ?_ (fun hHeld => ?_)
              · try dsimp only
                (first | exact ⟨e3, e4, e1⟩ | exact hS11 | exact hS12)
              clear hK K
              try simp only [List.getElem_toArray, List.getElem_cons_succ, List.getElem_cons_zero]
              try simp only [Act.put, List.setIfInBounds_toArray, List.set_cons_zero, List.set_cons_succ]
              refine wpAnyH_ready (rs := [3]) (by kernel_rfl) (by simp) ?_
              refine AllReadyH.cons rfl (fun K hK => ?_) ?_
              · skip
                simp only [List.getElem_toArray, List.getElem_cons_succ, List.getElem_cons_zero]
                go_simp
                refine hK.out _ _ ?_ (fun hHeld => ?_)
                · try dsimp only
                  (first | exact ⟨e3, e4, e1⟩ | exact hS11 | exact hS12)
                clear hK K
                try simp only [List.getElem_toArray, List.getElem_cons_succ, List.getElem_cons_zero]
                try simp only [Act.put, List.setIfInBounds_toArray, List.set_cons_zero, List.set_cons_succ]
                refine wpAnyH_take (i := 12) (v := ?_) rfl (by kernel_rfl) (by kernel_rfl) (by kernel_rfl) (fun _ _ _ h => h) (Or.inl ⟨by rfl, ?_⟩) (by assumption) ?_
                rotate_left
                · intro w hSw
                  try dsimp only at hSw
                  simp only [List.getElem_toArray, List.getElem_cons_succ, List.getElem_cons_zero]
                  go_simp
                  try with_reducible rfl
                simp only [List.getElem_toArray, List.getElem_cons_succ, List.getElem_cons_zero]
                try simp only [Act.put, List.setIfInBounds_toArray, List.set_cons_zero, List.set_cons_succ]
                refine wpAnyH_take (i := 13) (v := ?_) rfl (by kernel_rfl) (by kernel_rfl) (by kernel_rfl) (fun _ _ _ h => h) (Or.inl ⟨by rfl, ?_⟩) (by assumption) ?_
                rotate_left
                · intro w hSw
                  try dsimp only at hSw
                  simp only [List.getElem_toArray, List.getElem_cons_succ, List.getElem_cons_zero]
                  go_simp
                  try with_reducible rfl
                simp only [List.getElem_toArray, List.getElem_cons_succ, List.getElem_cons_zero]
                try simp only [Act.put, List.setIfInBounds_toArray, List.set_cons_zero, List.set_cons_succ]
                refine wpAnyH_take (i := 14) (v := ?_) rfl (by kernel_rfl) (by kernel_rfl) (by kernel_rfl) (fun _ _ _ h => h) (Or.inl ⟨by rfl, ?_⟩) (by assumption) ?_
                rotate_left
                · intro w hSw
                  try dsimp only at hSw
                  simp only [List.getElem_toArray, List.getElem_cons_succ, List.getElem_cons_zero]
                  go_simp
                  try with_reducible rfl
                simp only [List.getElem_toArray, List.getElem_cons_succ, List.getElem_cons_zero]
                try simp only [Act.put, List.setIfInBounds_toArray, List.set_cons_zero, List.set_cons_succ]
                refine wpAnyH_ready (rs := [15]) (by kernel_rfl) (by simp) ?_
                refine AllReadyH.cons rfl (fun K hK => ?_) ?_
                · skip
                  simp only [List.getElem_toArray, List.getElem_cons_succ, List.getElem_cons_zero]
                  go_simp
                  refine hK.out _ _ ?_ (fun hHeld => ?_)
                  · try dsimp only
                    (first | exact ⟨e3, e4, e1⟩ | exact hS11 | exact hS12)
                  clear hK K
                  try simp only [List.getElem_toArray, List.getElem_cons_succ, List.getElem_cons_zero]
                  try simp only [Act.put, List.setIfInBounds_toArray, List.set_cons_zero, List.set_cons_succ]
                  refine wpAnyH_done (by kernel_rfl) ?_ _
                  refine NoPanic.normal ?_
                  go_wp2_with fail
                  go_end0
                  exact Hend.out
                exact AllReadyH.nil
              exact AllReadyH.nil
            exact AllReadyH.nil
          exact AllReadyH.nil
        exact AllReadyH.nil
      exact AllReadyH.nil
    exact AllReadyH.nil
end Go.Proofs.YtkjogkmdldplgaaDoor
