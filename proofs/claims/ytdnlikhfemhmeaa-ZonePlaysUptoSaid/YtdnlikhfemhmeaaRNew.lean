/-
  The second saying's New: a drive is made, and hung on the power.
-/
import Derived.Test.YtdnlikhfemhmeaaRRot2
namespace Go.Proofs.Ytdnlikhfemhmeaa
open Go.RowKit

theorem info_rdrv : (Try.prog.info? 40).map (fun i => (i.zero, i.size, i.bytes)) = some (some (.pointer none), 1, 8) := by kernel_rfl
theorem info_rzone : (Try.prog.info? 93).map (fun i => (i.zero, i.size, i.bytes)) = some (some (.agg #[.slice none 0 0, .int .i64 0]), 2, 32) := by kernel_rfl

def RAttPost (w : World) (pw d : Nat) (dv : Value) (xs : List Value) (e : Ending) (w' : World) : Prop :=
  ∃ (dv' : Value) (W : World), e = .returned (.tuple #[]) ∧ w' = W.setCell ⟨pw, 4, none⟩ dv' ∧ OwnV W 0 40 dv' (xs ++ [refV d]) ∧ Kept (fun b => dv.ownBlock ≠ some b) w W ∧ (dv'.ownBlock = dv.ownBlock ∨ ∃ b, dv'.ownBlock = some b ∧ w.heap.size ≤ b)

theorem ratt_facts {w W9 : World} {pw d : Nat} {v v9 : Value} {xs : List Value} {ob : Obj} (hpw : pw < w.heap.size) (h0 : w.cell? ⟨pw, 4, none⟩ = some v) (f0 : w.frozen? ⟨pw, 4, none⟩ = false) (hne : v.ownBlock ≠ some pw)
    (hown9 : OwnV W9 0 40 v9 (xs ++ [refV d])) (hg9 : (w.alloc ob).grownBy W9 v.ownBlock) (hb9 : v9.ownBlock = v.ownBlock ∨ v9.ownBlock = some (w.alloc ob).heap.size) :
    (∃ g9 cap9, v9 = .slice (some ⟨g9, 0, none⟩) (xs.length + 1) cap9) ∧ W9.cell? ⟨pw, 4, none⟩ = some v ∧ W9.frozen? ⟨pw, 4, none⟩ = false ∧ RAttPost w pw d v xs (.returned (.tuple #[])) (W9.setCell ⟨pw, 4, none⟩ v9) := by
  have hblk : W9.heap[pw]? = w.heap[pw]? := by
    rw [hg9.block pw (by simp; omega) (fun e => hne e.symm), Below.heap_alloc w _ pw hpw]
  refine ⟨?_, (World.cell?_of_block (w := w) hblk).trans h0, (World.frozen?_of_block (w := w) hblk).trans f0, v9, W9, rfl, rfl, hown9, ((Kept.refl _ w).alloc _).grown hg9 (fun g hg h => h hg), ?_⟩
  · rcases hown9.form with ⟨_, h⟩ | ⟨g9, cap9, cur9, h, _⟩
    · simp at h
    · exact ⟨g9, cap9, by rw [h]; simp⟩
  · rcases hb9 with h | h
    · exact .inl h
    · exact .inr ⟨_, h, by simp⟩
theorem make_zones (n : Nat) (hn : n ≤ 4096) : ∃ cs : List Value, cs.length = n * 2 ∧ (∀ z, z < n → cs[z * 2]? = some (.slice none 0 0) ∧ cs[z * 2 + 1]? = some (.int .i64 0)) ∧
    ∀ u : World, (Instr.makeSlice 73 (.int .i64 (n : Int)) (.int .i64 (n : Int))).run Try.prog u = .ok (.slice (some ⟨u.heap.size, 0, none⟩) n n) (u.alloc (.cells cs.toArray 93)) := by
  obtain ⟨i0, hi, hz0, hz1, hz2⟩ := info_parts info_rzone
  refine ⟨(madeCells #[.slice none 0 0, .int .i64 0] (n * 2)).toList, by simp [size_madeCells], fun z hz => ?_, fun u => ?_⟩
  · constructor
    · rw [made_at _ _ _ (by omega)]
      have e : (z * 2) % 2 = 0 := by omega
      simp [e]
    · rw [made_at _ _ _ (by omega)]
      have e : (z * 2 + 1) % 2 = 1 := by omega
      simp [e]
  · have h := run_make (P := Try.prog) u 73 93 i0 _ Try.underlying73 hi hz0 .i64 .i64 (n : Int) (n : Int) (by omega) (Int.le_refl _) (by rw [hz2]; omega) (by omega)
    rw [h]
    simp only [Int.toNat_natCast, hz1]
    rfl

def RNewPost (w : World) (O : Nat → Option Tag) (pw : Nat) (P : Pow) (ds : List (Nat × Drv)) (D : Drv) (e : Ending) (w' : World) : Prop :=
  ∃ (O' : Nat → Option Tag) (d : Nat), e = .returned (.tuple #[.pointer (some ⟨d, 0, none⟩), .int .i64 0]) ∧ RSysAt w' O' pw P (ds ++ [(d, D)]) ∧ Ext w O w' O'

theorem rnew_facts {w : World} {O : Nat → Option Tag} {pw : Nat} {P : Pow} {ds : List (Nat × Drv)} {cs : List Value} {zones cap size : Nat} (h : RSysAt w O pw P ds) (hcl : cs.length = zones * 2)
    (hcs : ∀ z, z < zones → cs[z * 2]? = some (.slice none 0 0) ∧ cs[z * 2 + 1]? = some (.int .i64 0)) (hok : (Drv.new zones cap size).Ok) {w2 w' : World} {e : Ending} {dv : Value} {A : Option Addr} {c n9 : Nat}
    (hw2 : w2 = (w.alloc (.cells cs.toArray 93)).alloc (.cells #[.pointer (some ⟨pw, 0, none⟩), .int .i64 (cap : Int), .int .i64 (size : Int), .slice (some ⟨w.heap.size, 0, none⟩) zones zones, .bool false] 75))
    (h1 : Cells w pw 32 [.bool P.off, .int .i64 (P.left : Int), .slice A n9 c, .int .i64 (P.writes : Int), dv]) (h2 : O pw = some .pw) (h3 : OwnV w 0 40 dv ((ds.map (·.1)).map refV)) (h4 : ∀ g, dv.ownBlock = some g → O g = some .dev)
    (h5 : P.left ≠ 0 → n9 = P.picks.length ∧ RI w w.heap.size A P.picks ∧ P.picks.length ≤ c ∧ P.picks.length ≤ 1099511627776 ∧ ∀ ad, A = some ad → O ad.block = some .picks)
    (hpost : RAttPost w2 pw (w.heap.size + 1) dv ((ds.map (·.1)).map refV) e w') :
    e = .returned (.tuple #[]) ∧ RNewPost w O pw P ds (Drv.new zones cap size) (.returned (.tuple #[.pointer (some ⟨w.heap.size + 1, 0, none⟩), .int .i64 0])) w' := by
  obtain ⟨dv', W, rfl, rfl, hdv', hkW, hb'⟩ := hpost
  refine ⟨rfl, ?_⟩
  have hs2 : w2.heap.size = w.heap.size + 2 := by rw [hw2]; simp
  have k2 : Kept (fun _ => True) w w2 := by rw [hw2]; exact ((Kept.refl _ w).alloc _).alloc _
  have hg : Cells w2 w.heap.size 93 cs := by rw [hw2]; exact (Cells.new w cs.toArray _).alloc _
  have hd : Cells w2 (w.heap.size + 1) 75 [.pointer (some ⟨pw, 0, none⟩), .int .i64 (cap : Int), .int .i64 (size : Int), .slice (some ⟨w.heap.size, 0, none⟩) zones zones, .bool false] := by
    rw [hw2]
    have := Cells.new (w.alloc (.cells cs.toArray 93)) #[.pointer (some ⟨pw, 0, none⟩), .int .i64 (cap : Int), .int .i64 (size : Int), .slice (some ⟨w.heap.size, 0, none⟩) zones zones, .bool false] 75
    simpa using this
  have hdvlt : ∀ b, dv.ownBlock = some b → b < w.heap.size := fun b hb => (h3.ge b hb).2
  have hpwlt := h1.lt
  have hdvpw : dv.ownBlock ≠ some pw := fun e => by have := h4 pw e; rw [h2] at this; cases this
  have hdv'lt : ∀ b, dv'.ownBlock = some b → b < W.heap.size := fun b hb => (hdv'.ge b hb).2
  have hdv'n : ∀ b, dv'.ownBlock = some b → dv.ownBlock = some b ∨ w.heap.size + 2 ≤ b := by
    intro b hb
    rcases hb' with q | ⟨b2, q, q2⟩
    · exact .inl (q ▸ hb)
    · rw [q] at hb; cases hb; omega
  have hdv'pw : dv'.ownBlock ≠ some pw := by
    intro e
    rcases hdv'n pw e with q | q
    · exact hdvpw q
    · omega
  have hk : Kept (fun b => dv.ownBlock ≠ some b ∧ b ≠ pw) w (W.setCell ⟨pw, 4, none⟩ dv') := by
    refine Kept.setCell (Kept.trans (k2.mono fun _ _ _ => trivial) (hkW.mono fun b _ hb => hb.1)) (fun hh => hh.2 rfl) _
  have hk2 : Kept (fun b => dv.ownBlock ≠ some b ∧ b ≠ pw) w2 (W.setCell ⟨pw, 4, none⟩ dv') := (hkW.mono fun b _ hb => hb.1).setCell (fun hh => hh.2 rfl) _
  have hsz : (W.setCell ⟨pw, 4, none⟩ dv').heap.size = W.heap.size := by simp [World.setCell]
  have hWsz : w.heap.size + 2 ≤ W.heap.size := by have := hkW.size; omega
  obtain ⟨O', hO'⟩ : ∃ O' : Nat → Option Tag, O' = fun b => if b < w.heap.size then O b else if b = w.heap.size then some (.piles ds.length) else if b = w.heap.size + 1 then some (.drv ds.length) else if dv'.ownBlock = some b then some .dev else none := ⟨_, rfl⟩
  have o1 : ∀ b, b < w.heap.size → O' b = O b := fun b hb => by rw [hO']; simp only [if_pos hb]
  have o2 : O' w.heap.size = some (.piles ds.length) := by rw [hO']; simp
  have o3 : O' (w.heap.size + 1) = some (.drv ds.length) := by rw [hO']; simp only [if_neg (show ¬ w.heap.size + 1 < w.heap.size by omega), if_neg (show ¬ w.heap.size + 1 = w.heap.size by omega), if_true]
  have o4 : ∀ b, w.heap.size + 2 ≤ b → O' b = if dv'.ownBlock = some b then some .dev else none := fun b hb => by rw [hO']; simp only [if_neg (show ¬ b < w.heap.size by omega), if_neg (show ¬ b = w.heap.size by omega), if_neg (show ¬ b = w.heap.size + 1 by omega)]
  clear hO'
  have hKd : ∀ b t, O b = some t → t ≠ .dev → t ≠ .pw → dv.ownBlock ≠ some b ∧ b ≠ pw := fun b t hb n1 n2 => ⟨fun e => n1 (by have := h4 b e; rw [hb] at this; cases this; rfl), fun e => n2 (by rw [e, h2] at hb; cases hb; rfl)⟩
  refine ⟨O', w.heap.size + 1, rfl, ⟨fun b hb => ?_, fun i d D hi => ?_, ?_⟩, hk.mono (fun b _ hb => ⟨(fun e => by rw [h4 b e] at hb; cases hb), (fun e => by rw [e, h2] at hb; cases hb)⟩), o1⟩
  · rw [hsz]
    by_cases q1 : b < w.heap.size + 2
    · omega
    · rw [o4 b (by omega)] at hb
      by_cases q2 : dv'.ownBlock = some b
      · exact hdv'lt b q2
      · rw [if_neg q2] at hb; exact absurd rfl hb
  · by_cases hil : i < ds.length
    · rw [List.getElem?_append_left hil] at hi
      obtain ⟨q1, q2⟩ := h.drv i d D hi
      refine ⟨q1.keep (T := fun t => t ≠ .dev ∧ t ≠ .pw) (fun b t hlt hb ht => ⟨hk.block b hlt (hKd b t hb ht.1 ht.2), (o1 b hlt).trans hb⟩) (fun t ht => ⟨(by intro e; subst e; cases ht), (by intro e; subst e; cases ht)⟩), q2⟩
    · rw [List.getElem?_append_right (by omega)] at hi
      have e0 : i - ds.length = 0 := by
        have := (List.getElem?_eq_some_iff.1 hi).1
        simp at this
        omega
      rw [e0] at hi
      have ei : i = ds.length := by omega
      subst ei
      cases hi
      refine ⟨⟨w.heap.size, cs, ?_, o3, ?_, o2, ?_, fun z p hz => ?_⟩, hok⟩
      · have := hd.move (hk2.block (w.heap.size + 1) (by omega) ⟨fun e => by have := hdvlt _ e; omega, by omega⟩)
        simpa [Drv.new] using this
      · exact hg.move (hk2.block w.heap.size (by omega) ⟨fun e => by have := hdvlt _ e; omega, by omega⟩)
      · simpa [Drv.new] using hcl
      · have hzl : z < zones := by have := (List.getElem?_eq_some_iff.1 hz).1; simpa [Drv.new] using this
        have ep : p = ⟨[], 0⟩ := by have := List.mem_of_getElem? hz; exact List.eq_of_mem_replicate this
        subst ep
        exact ⟨_, (hcs z hzl).1, (hcs z hzl).2, [], OwnV.nil _ _ _, (fun g hg => by cases hg), rfl, fun k l hl => by simp at hl⟩
  · refine ⟨dv', A, n9, c, ?_, (o1 pw hpwlt).trans h2, ?_, fun b hb => ?_, fun hl => ?_⟩
    · have q1 : Cells W pw 32 [.bool P.off, .int .i64 (P.left : Int), .slice A n9 c, .int .i64 (P.writes : Int), dv] := (h1.move (k2.block pw hpwlt trivial)).move (hkW.block pw (by omega) hdvpw)
      exact q1.set 4 dv'
    · have q1 := hdv'.move (w' := W.setCell ⟨pw, 4, none⟩ dv') fun b hb => Below.heap_setCell _ _ _ _ (fun e => hdv'pw ((show b = pw from e) ▸ hb))
      simpa using q1
    · rcases hdv'n b hb with q | q
      · exact (o1 b (hdvlt b q)).trans (h4 b q)
      · rw [o4 b q, if_pos hb]
    · obtain ⟨u1, u2, u3, u4, u5⟩ := h5 hl
      exact ⟨u1, (u2.kept hk (fun ad he => hKd _ _ (u5 ad he) (by intro e; cases e) (by intro e; cases e)) (Nat.le_refl _)).wide hk.size, u3, u4, fun ad he => (o1 _ (h.fresh _ (by rw [u5 ad he]; simp))).trans (u5 ad he)⟩

set_option maxRecDepth 20000 in
set_option maxHeartbeats 1000000 in
theorem rnew_ok (pw : Nat) (P : Pow) (ds : List (Nat × Drv)) (O : Nat → Option Tag) (zones cap size : Nat) (w : World) (h : RSysAt w O pw P ds) (hn : ds.length ≤ 1048576) (z1 : 1 ≤ zones) (z2 : zones ≤ 4096) (p1 : 1 ≤ cap) (p2 : cap ≤ 4096) (s1 : 32 ≤ size) (s2 : size ≤ 65536) :
    Calls Try.prog 10 #[.pointer (some ⟨pw, 0, none⟩), .int .i64 (zones : Int), .int .i64 (cap : Int), .int .i64 (size : Int)] w (RNewPost w O pw P ds (Drv.new zones cap size)) := by
  obtain ⟨cs, hcl, hcs, hmk⟩ := make_zones zones z2
  obtain ⟨dv, A, n9, c, h1, h2, h3, h4, h5⟩ := h.pow
  obtain ⟨w2, hw2⟩ : ∃ w2, w2 = (w.alloc (.cells cs.toArray 93)).alloc (.cells #[.pointer (some ⟨pw, 0, none⟩), .int .i64 (cap : Int), .int .i64 (size : Int), .slice (some ⟨w.heap.size, 0, none⟩) zones zones, .bool false] 75) := ⟨_, rfl⟩
  have hk2 : Kept (fun _ => True) w w2 := by rw [hw2]; exact ((Kept.refl _ w).alloc _).alloc _
  have q1 : Cells w2 pw 32 [.bool P.off, .int .i64 (P.left : Int), .slice A n9 c, .int .i64 (P.writes : Int), dv] := h1.move (hk2.block pw h1.lt trivial)
  have q3 : OwnV w2 0 40 dv ((ds.map (·.1)).map refV) := h3.move fun g hg => hk2.block g (h3.ge g hg).2 trivial
  have Hfin : Hid (∀ v9 W9 ob, OwnV W9 0 40 v9 ((ds.map (·.1)).map refV ++ [refV (w.heap.size + 1)]) → (w2.alloc ob).grownBy W9 dv.ownBlock → (v9.ownBlock = dv.ownBlock ∨ v9.ownBlock = some (w2.alloc ob).heap.size) →
      (∃ g9 cap9, v9 = .slice (some ⟨g9, 0, none⟩) (((ds.map (·.1)).map refV).length + 1) cap9) ∧ W9.cell? ⟨pw, 4, none⟩ = some dv ∧ W9.frozen? ⟨pw, 4, none⟩ = false ∧ RNewPost w O pw P ds (Drv.new zones cap size) (.returned (.tuple #[.pointer (some ⟨w.heap.size + 1, 0, none⟩), .int .i64 0])) (W9.setCell ⟨pw, 4, none⟩ v9)) := by
    intro v9 W9 ob hown9 hg9 hb9
    obtain ⟨a1, a2, a3, a4⟩ := ratt_facts (d := w.heap.size + 1) q1.lt (q1.cell (i := 4) rfl) (q1.frozen 4) (fun e => by have := h4 pw e; rw [h2] at this; cases this) hown9 hg9 hb9
    exact ⟨a1, a2, a3, (rnew_facts h hcl hcs (Drv.new_ok z2 p2 s1 s2) hw2 h1 h2 h3 h4 h5 a4).2⟩
  obtain ⟨Ad, cd, rfl, _, _, _⟩ := h3.rd
  have hx4 := q1.cell (i := 4) rfl
  have Hq3 := Lib.hid q3
  have Hx : Hid (((ds.map (·.1)).map refV).length ≤ 1048576) := by show _ ≤ _; simpa using hn
  have a1 : (1 : Int) ≤ (zones : Int) := by omega
  have a2 : (zones : Int) ≤ 4096 := by omega
  have a3 : (1 : Int) ≤ (cap : Int) := by omega
  have a4 : (cap : Int) ≤ 4096 := by omega
  have a5 : (32 : Int) ≤ (size : Int) := by omega
  have a6 : (size : Int) ≤ 65536 := by omega
  clear q1 q3 hk2 h1 h2 h3 h4 h5 hcl hcs h z1 z2 p1 p2 s1 s2 hn
  generalize hxs : (ds.map (·.1)).map refV = xs at *
  clear hxs
  go_enter Try.func10, Try.ntmps10
  go_upto_region 4 with fail
  rw [← hw2]
  clear hw2
  go_wp2_with (at_builtin; go_must (refine app_one rfl (.tmp 44) (.tmp 46) 30 40 rfl Try.underlying30 (.pointer none) 8 info_rdrv rfl 0 _ xs rfl (Hq3.out.alloc _) ⟨w2.heap.size, 0, none⟩ 1 (.pointer (some ⟨w.heap.size + 1, 0, none⟩)) rfl (cell_new _ _ _) rfl (by have := Hx.out; omega) (by have := Hx.out; omega) (Nat.zero_le _) ?_); intro v9 W9 hown9 hg9 hb9; obtain ⟨⟨g9, cap9, rfl⟩, hc9, hf9, hpost⟩ := Hfin.out v9 W9 _ hown9 hg9 hb9; have Hpost := Lib.hid hpost; clear hpost hown9 hg9 hb9)
  go_ret2
  exact Hpost.out
end Go.Proofs.Ytdnlikhfemhmeaa
