/-
  A page behind a pile's last one.
-/
import Derived.Test.YtdnlikhfemhmeaaZClone
import Derived.Test.YtdnlikhfemhmeaaZPile
import Derived.Deep.RegionLaw
namespace Go.Proofs.Ytdnlikhfemhmeaa
open Go.RowKit

/-- append(v, x), one element more, at a step of a region that draws its order -/
theorem step_app_one {w : World} {ops : Array Oper} {K : Act → World → Prop} {E : Prop} {o : Oper} {a : Act} {Q : Exit → Act → World → Prop} (hgd : o.guard = none) (s x : Operand) (t e : TypeId)
    (ho : o.op = .call { callee := .builtin .append, args := #[s, x], argTypes := #[t, t] })
    (hu : Try.prog.underlying t = some (.slice e)) (z : Value) (bytes : Nat) (hi : (Try.prog.info? e).map (fun i => (i.zero, i.size, i.bytes)) = some (some z, 1, bytes)) (hzc : z.cells.size = 1)
    (base : Nat) (v : Value) (xs : List Value) (hs : a.eval s = v) (hown : OwnV w base e v xs)
    (ad : Addr) (c : Nat) (u : Value) (hx : a.eval x = .slice (some ad) 1 c) (hc : w.cell? ad = some u) (h1 : u.oneCell' = true)
    (hlen : xs.length + 1 ≤ 140737488355327) (hbytes : (xs.length + 1) * bytes ≤ 140737488355328) (hbase : base ≤ w.heap.size)
    (h : ∀ v' w', OwnV w' base e v' (xs ++ [u]) → w.grownBy w' v.ownBlock → (v'.ownBlock = v.ownBlock ∨ v'.ownBlock = some w.heap.size) → K (a.put o.dst v') w') :
    if Region.wanted o (yielded ops a.tmps) = true then Oper.wp Try.prog o a w K Q else E := by
  have hw : Region.wanted o (yielded ops a.tmps) = true := by simp [Region.wanted, hgd]
  rw [if_pos hw]
  obtain ⟨v', w', hrun, h2, h3, h5⟩ := app_cells_run (w := w) t o.type e hu z bytes hi hzc base v xs hown ad c [u]
    (fun j y hy => by
      cases j with
      | zero => simp at hy; subst hy; exact hc
      | succ j => simp at hy) (fun y hy => by simp at hy; subst hy; exact h1) (by simpa using hlen) (by simpa using hbytes) hbase
  unfold Oper.wp execOp
  simp only [ho, resolve, invoke, builtin, Sem.run_bind, Sem.run_pure, Result.andThen_ok, List.map_toArray, List.map_cons, List.map_nil, hs, hx]
  rw [show (Builtin.append_ #[t, t] o.type #[v, .slice (some ad) 1 c]).run Try.prog w = .ok v' w' from hrun]
  exact h v' w' h2 h3 h5

theorem info_bytes : (Try.prog.info? 46).map (fun i => (i.zero, i.size, i.bytes)) = some (some (.slice none 0 0), 1, 24) := by kernel_rfl

/-- what add leaves: the row's value v' stands in cell o of g; u is the new page -/
def AddPost (w : World) (g o : Nat) (v : Value) (vs : List Value) (l : List UInt8) (e : Ending) (w' : World) : Prop :=
  ∃ (v' u : Value) (W : World), e = .returned (.tuple #[]) ∧ w' = W.setCell ⟨g, o, none⟩ v' ∧ OwnV W 0 46 v' (vs ++ [u]) ∧ Own W w.heap.size u l ∧
    Kept (fun b => v.ownBlock ≠ some b) w W ∧ (v'.ownBlock = v.ownBlock ∨ ∃ b, v'.ownBlock = some b ∧ w.heap.size ≤ b)

theorem add_facts {w w1 W9 : World} {g o : Nat} {v v9 u : Value} {vs : List Value} {l : List UInt8} {ob : Obj} (hg : g < w.heap.size) (h0 : w.cell? ⟨g, o, none⟩ = some v) (f0 : w.frozen? ⟨g, o, none⟩ = false)
    (hne : v.ownBlock ≠ some g) (hrow : OwnV w 0 46 v vs) (hb1 : Below w.drew.heap.size w.drew w1) (hu : Own w1 w.drew.heap.size u l)
    (hown9 : OwnV W9 0 46 v9 (vs ++ [u])) (hg9 : (w1.alloc ob).grownBy W9 v.ownBlock) (hb9 : v9.ownBlock = v.ownBlock ∨ v9.ownBlock = some (w1.alloc ob).heap.size) :
    (∃ g9 cap9, v9 = .slice (some ⟨g9, 0, none⟩) (vs.length + 1) cap9) ∧ W9.cell? ⟨g, o, none⟩ = some v ∧ W9.frozen? ⟨g, o, none⟩ = false ∧ AddPost w g o v vs l (.returned (.tuple #[])) (W9.setCell ⟨g, o, none⟩ v9) := by
  have hb : Below w.heap.size w w1 := ⟨hb1.os, hb1.tape, hb1.output, hb1.size, hb1.block⟩
  have hsz : w.heap.size ≤ w1.heap.size := hb.size
  have hga : g < (w1.alloc ob).heap.size := by simp; omega
  have hblk : W9.heap[g]? = w.heap[g]? := by
    rw [hg9.block g hga (fun e => hne e.symm), Below.heap_alloc w1 ob g (by omega), hb.block g hg]
  have hule : ∀ k, u.ownBlock = some k → w.heap.size ≤ k ∧ k < w1.heap.size := fun k hk => hu.lt k hk
  have hvle : ∀ k, v.ownBlock = some k → k < w.heap.size := fun k hk => (hrow.ge k hk).2
  refine ⟨?_, (World.cell?_of_block (w := w) hblk).trans h0, (World.frozen?_of_block (w := w) hblk).trans f0, v9, u, W9, rfl, rfl, hown9, ?_, ?_, ?_⟩
  · rcases hown9.form with ⟨_, h⟩ | ⟨g9, cap9, cur9, h, _⟩
    · simp at h
    · exact ⟨g9, cap9, by rw [h]; simp⟩
  · refine hu.move fun k hk => ?_
    have h1 := hule k hk
    rw [hg9.block k (by simp; omega) (fun e => by have := hvle k e.symm; omega), Below.heap_alloc w1 ob k h1.2]
  · refine ⟨hg9.os.trans hb.os, hg9.tape.trans hb.tape, hg9.output.trans hb.output, Nat.le_trans hsz (Nat.le_trans (by simp) hg9.size), fun b hlt hK => ?_⟩
    rw [hg9.block b (by simp; omega) (fun e => hK e.symm), Below.heap_alloc w1 ob b (by omega), hb.block b hlt]
  · rcases hb9 with h | h
    · exact .inl h
    · exact .inr ⟨_, h, by simp; omega⟩

set_option maxRecDepth 20000 in
set_option maxHeartbeats 1000000 in
theorem add_any (g o : Nat) (v : Value) (vs : List Value) (A : Option Addr) (c : Nat) (l : List UInt8) (w : World) (hg : g < w.heap.size)
    (h0 : w.cell? ⟨g, o, none⟩ = some v) (f0 : w.frozen? ⟨g, o, none⟩ = false) (hrow : OwnV w 0 46 v vs) (hne : v.ownBlock ≠ some g)
    (hr : RB w w.heap.size A l) (hl : l.length ≤ 1048576) (hvs : vs.length ≤ 1048576) :
    Calls Try.prog 45 #[.pointer (some ⟨g, o, none⟩), .slice A l.length c] w (AddPost w g o v vs l) := by
  have Hcl := Lib.hid (clone_any A c l w.drew w.heap.size hr (Nat.le_refl _) (by omega))
  have Hrow := Lib.hid hrow
  have Hne := Lib.hid hne
  have Hg := Lib.hid hg
  have Hvs := Lib.hid hvs
  have H0 := Lib.hid h0
  have F0 := Lib.hid f0
  clear hr hl hvs hrow hne hg
  go_enter Try.func45, Try.ntmps45
  go_wp2_with fail
  go_region_law (first
    | (go_simp; go_at_call 41; refine Hcl.out.mono ?_; rintro e w1 ⟨u, rfl, hu, hb1⟩; have hc1 : w1.cell? ⟨g, o, none⟩ = some v := (hb1.cell (p := ⟨g, o, none⟩) Hg.out).trans H0.out; obtain ⟨Au, cu, rfl, hcu, hru, hzu⟩ := hu.rb; have hc1a : (w1.alloc (.cells #[.slice Au l.length cu] 46)).cell? ⟨g, o, none⟩ = some v := (World.cell?_alloc_lt w1 _ ⟨g, o, none⟩ (Nat.lt_of_lt_of_le Hg.out hb1.size)).trans hc1; have Hu := Lib.hid hu; have Hb1 := Lib.hid hb1; have Hrow1 : Hid (OwnV w1 0 46 v vs) := Hrow.out.move (fun gg hgg => hb1.block gg (Hrow.out.ge gg hgg).2); clear hu hb1 hcu hru hzu)
    | (go_must (refine step_app_one (by rfl) (.tmp 8) (.tmp 11) 89 46 (by rfl) Try.underlying89 (.slice none 0 0) 24 info_bytes rfl 0 v vs (by rfl) (Hrow1.out.alloc _) ⟨w1.heap.size, 0, none⟩ 1 (.slice Au l.length cu) (by rfl) (cell_new _ _ _) rfl (by have := Hvs.out; omega) (by have := Hvs.out; omega) (Nat.zero_le _) ?_); intro v9 W9 hown9 hg9 hb9; obtain ⟨⟨g9, cap9, rfl⟩, hc9, hf9, hpost⟩ := add_facts Hg.out H0.out F0.out Hne.out Hrow.out Hb1.out Hu.out hown9 hg9 hb9; have Hpost := Lib.hid hpost; clear hpost hown9 hg9 hb9))
  all_goals
    go_wp2_with fail
    go_end0
    exact Hpost.out
end Go.Proofs.Ytdnlikhfemhmeaa
