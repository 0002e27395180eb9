/-
  A power, and a device that hangs on it, are made.
-/
import Derived.Test.YtoeeppecinjiiaaNv7
namespace Go.Proofs.Ytoeeppecinjiiaa
open Go.RowKit

theorem info_dev : (Try.prog.info? 71).map (fun i => (i.zero, i.size, i.bytes)) = some (some .nilIface, 1, 16) := by kernel_rfl
def AttPost (w : World) (pw d : Nat) (dv : Value) (xs : List Value) (e : Ending) (w' : World) : Prop :=
  ∃ (dv' : Value) (W : World), e = .returned (.tuple #[]) ∧ w' = W.setCell ⟨pw, 0, none⟩ dv' ∧ OwnV W 0 71 dv' (xs ++ [devV d]) ∧ Kept (fun b => dv.ownBlock ≠ some b) w W ∧ (dv'.ownBlock = dv.ownBlock ∨ ∃ b, dv'.ownBlock = some b ∧ w.heap.size ≤ b)

theorem att_facts {w W9 : World} {pw d : Nat} {v v9 : Value} {xs : List Value} {ob : Obj} (hpw : pw < w.heap.size) (h0 : w.cell? ⟨pw, 0, none⟩ = some v) (f0 : w.frozen? ⟨pw, 0, none⟩ = false) (hne : v.ownBlock ≠ some pw)
    (hown9 : OwnV W9 0 71 v9 (xs ++ [devV d])) (hg9 : (w.alloc ob).grownBy W9 v.ownBlock) (hb9 : v9.ownBlock = v.ownBlock ∨ v9.ownBlock = some (w.alloc ob).heap.size) :
    (∃ g9 cap9, v9 = .slice (some ⟨g9, 0, none⟩) (xs.length + 1) cap9) ∧ W9.cell? ⟨pw, 0, none⟩ = some v ∧ W9.frozen? ⟨pw, 0, none⟩ = false ∧ AttPost w pw d v xs (.returned (.tuple #[])) (W9.setCell ⟨pw, 0, none⟩ v9) := by
  have hblk : W9.heap[pw]? = w.heap[pw]? := by
    rw [hg9.block pw (by simp; omega) (fun e => hne e.symm), Below.heap_alloc w _ pw hpw]
  refine ⟨?_, (World.cell?_of_block (w := w) hblk).trans h0, (World.frozen?_of_block (w := w) hblk).trans f0, v9, W9, rfl, rfl, hown9, ((Kept.refl _ w).alloc _).grown hg9 (fun g hg h => h hg), ?_⟩
  · rcases hown9.form with ⟨_, h⟩ | ⟨g9, cap9, cur9, h, _⟩
    · simp at h
    · exact ⟨g9, cap9, by rw [h]; simp⟩
  · rcases hb9 with h | h
    · exact .inl h
    · exact .inr ⟨_, h, by simp⟩
set_option maxRecDepth 20000 in
set_option maxHeartbeats 400000 in
theorem attach_any (pw d : Nat) (dv : Value) (xs : List Value) (w : World) (h0 : w.cell? ⟨pw, 0, none⟩ = some dv) (f0 : w.frozen? ⟨pw, 0, none⟩ = false) (hpw : pw < w.heap.size) (hdv : OwnV w 0 71 dv xs) (hne : dv.ownBlock ≠ some pw) (hx : xs.length ≤ 1048576) :
    Calls Try.prog 24 #[.pointer (some ⟨pw, 0, none⟩), .iface 27 (.pointer (some ⟨d, 0, none⟩))] w (AttPost w pw d dv xs) := by
  obtain ⟨A0, c0, rfl, _, _, _⟩ := hdv.rd
  have Hdv := Lib.hid hdv
  have Hne := Lib.hid hne
  have Hpw := Lib.hid hpw
  have Hx := Lib.hid hx
  have H0 := Lib.hid h0
  have F0 := Lib.hid f0
  clear hdv hne hpw hx
  go_enter Try.func24, Try.ntmps24
  go_wp2_with (at_builtin; go_must (refine app_one rfl (.tmp 8) (.tmp 10) 56 71 rfl Try.underlying56 .nilIface 16 info_dev rfl 0 _ xs rfl (Hdv.out.alloc _) ⟨w.heap.size, 0, none⟩ 1 (.iface 27 (.pointer (some ⟨d, 0, none⟩))) rfl (cell_new _ _ _) rfl (by have := Hx.out; omega) (by have := Hx.out; omega) (Nat.zero_le _) ?_); intro v9 W9 hown9 hg9 hb9; obtain ⟨⟨g9, cap9, rfl⟩, hc9, hf9, hpost⟩ := att_facts Hpw.out H0.out F0.out Hne.out hown9 hg9 hb9; have Hpost := Lib.hid hpost; clear hpost hown9 hg9 hb9)
  go_end0
  exact Hpost.out

def PowNew (w : World) (pw : Nat) : Prop := Cells w pw 58 [.slice none 0 0, .bool false, .int .i64 0, .int .i64 0, .slice none 0 0]
set_option maxRecDepth 20000 in
theorem newPower_any (w : World) : Calls Try.prog 7 #[] w fun e w' => e = .returned (.pointer (some ⟨w.heap.size, 0, none⟩)) ∧ PowNew w' w.heap.size ∧ Below w.heap.size w w' := by
  have Hs : Hid (PowNew (w.alloc (.cells #[.slice none 0 0, .bool false, .int .i64 0, .int .i64 0, .slice none 0 0] 58)) w.heap.size) := Cells.new w _ _
  go_enter Try.func7, Try.ntmps7
  go_wp2_with fail
  go_ret
  exact ⟨rfl, Hs.out, (Below.refl _ _).alloc (Nat.le_refl _) _⟩

/-- make([]byte, n) -/
theorem make_run (n : Nat) (hn : n ≤ 1099511627776) : ∃ cs : Array Value, Hid (cs = (bvs (List.replicate n 0)).toArray) ∧
    ∀ u : World, (Instr.makeSlice 35 (.int .i64 (n : Int)) (.int .i64 (n : Int))).run Try.prog u = .ok (.slice (some ⟨u.heap.size, 0, none⟩) n n) (u.alloc (.cells cs 5)) := by
  obtain ⟨i0, hi, hz0, hz1, hz2⟩ := info_parts info8
  refine ⟨_, rfl, fun u => ?_⟩
  have h := run_make (P := Try.prog) u 35 5 i0 (.int .u8 0) Try.underlying35 hi hz0 .i64 .i64 (n : Int) (n : Int) (by omega) (Int.le_refl _) (by rw [hz2]; omega) (by omega)
  rw [h]
  simp only [Int.toNat_natCast, hz1, Nat.mul_one]
  congr 3
  apply Array.toList_inj.1
  show (madeCells #[Value.int .u8 0] n).toList = _
  rw [toList_madeCells_one]
  simp [bvs, bv]
def Dev.new (n : Nat) : Dev := ⟨List.replicate n 0, [], 0⟩
theorem Dev.new_ok {n : Nat} (h1 : 64 ≤ n) (h2 : n ≤ 67108864) : (Dev.new n).Ok :=
  ⟨by show 64 ≤ (List.replicate n _).length; rw [List.length_replicate]; exact h1, by show (List.replicate n _).length ≤ _; rw [List.length_replicate]; exact h2, fun u hu => by simp [Dev.new] at hu, fun u hu => by simp [Dev.new] at hu, fun u hu => by simp [Dev.new] at hu, Nat.zero_le _⟩
def NewPost (w : World) (pw n : Nat) (e : Ending) (w' : World) : Prop :=
  ∃ (O : Nat → Option Tag) (nv : Nat), e = .returned (.tuple #[.pointer (some ⟨nv, 0, none⟩), .int .i64 0]) ∧ SysAt w' O pw Pow.new nv (Dev.new n) ∧ (∀ b, b < w.heap.size → b ≠ pw → O b = none) ∧ Kept (fun b => b ≠ pw) w w'
theorem new_facts {w w2 w' : World} {pw n : Nat} {e : Ending} (hp : PowNew w pw) (h1 : 64 ≤ n) (h2 : n ≤ 67108864)
    (hw2 : w2 = (w.alloc (.cells (bvs (List.replicate n 0)).toArray 5)).alloc (.cells #[.pointer (some ⟨pw, 0, none⟩), .slice (some ⟨w.heap.size, 0, none⟩) n n, .slice none 0 0, .int .i64 0] 61))
    (hpost : AttPost w2 pw (w.heap.size + 1) (.slice none 0 0) [] e w') :
    e = .returned (.tuple #[]) ∧ NewPost w pw n (.returned (.tuple #[.pointer (some ⟨w.heap.size + 1, 0, none⟩), .int .i64 0])) w' := by
  obtain ⟨dv', W, rfl, rfl, hdv', hkW, hb'⟩ := hpost
  refine ⟨rfl, ?_⟩
  have hpl := hp.lt
  have hs2 : w2.heap.size = w.heap.size + 2 := by rw [hw2]; simp
  have k2 : Kept (fun _ => True) w w2 := by rw [hw2]; exact ((Kept.refl _ w).alloc _).alloc _
  have hkW2 : Kept (fun _ => True) w2 W := hkW.mono fun b _ _ => by intro e; cases e
  have hB : Blk W w.heap.size (List.replicate n 0) := by
    have : Blk w2 w.heap.size (List.replicate n 0) := by
      rw [hw2]
      exact Blk.alloc (show Blk (w.alloc _) w.heap.size _ from heap_alloc_new w _) _
    exact (hkW2.block _ (by omega) trivial).trans this
  have hD : Cells W (w.heap.size + 1) 61 [.pointer (some ⟨pw, 0, none⟩), .slice (some ⟨w.heap.size, 0, none⟩) n n, .slice none 0 0, .int .i64 0] := by
    have := Cells.new (w.alloc (.cells (bvs (List.replicate n 0)).toArray 5)) #[.pointer (some ⟨pw, 0, none⟩), .slice (some ⟨w.heap.size, 0, none⟩) n n, .slice none 0 0, .int .i64 0] 61
    have e : (w.alloc (.cells (bvs (List.replicate n 0)).toArray 5)).heap.size = w.heap.size + 1 := by simp
    rw [e, ← hw2] at this
    exact this.move (hkW2.block _ (by omega) trivial)
  have hP : Cells W pw 58 [.slice none 0 0, .bool false, .int .i64 0, .int .i64 0, .slice none 0 0] := (Cells.move hp (k2.block pw hpl trivial)).move (hkW2.block _ (by omega) trivial)
  have hnew : ∀ b, dv'.ownBlock = some b → w.heap.size + 2 ≤ b ∧ b < W.heap.size := by
    intro b hb
    refine ⟨?_, (hdv'.ge b hb).2⟩
    rcases hb' with q | ⟨b2, q, q2⟩
    · rw [q] at hb; cases hb
    · rw [q] at hb; cases hb; omega
  have hsz : (W.setCell ⟨pw, 0, none⟩ dv').heap.size = W.heap.size := by simp [World.setCell]
  have hWs : w.heap.size + 2 ≤ W.heap.size := by have := hkW2.size; omega
  have hk : Kept (fun b => b ≠ pw) w (W.setCell ⟨pw, 0, none⟩ dv') := ((k2.trans ⟨hkW2.os, hkW2.tape, hkW2.output, hkW2.size, hkW2.block⟩).mono fun _ _ _ => trivial).setCell (fun h => h rfl) _
  have hkS : Kept (fun b => b ≠ pw) W (W.setCell ⟨pw, 0, none⟩ dv') := (Kept.refl _ W).setCell (fun h => h rfl) _
  obtain ⟨O, hO⟩ : ∃ O : Nat → Option Tag, O = fun b => if b = pw then some .pw else if b = w.heap.size then some .bytes else if b = w.heap.size + 1 then some .nv else if dv'.ownBlock = some b then some .dev else none := ⟨_, rfl⟩
  have o1 : O pw = some .pw := by rw [hO]; exact if_pos rfl
  have o2 : O w.heap.size = some .bytes := by rw [hO]; simp only [if_neg (show ¬ w.heap.size = pw by omega), if_true]
  have o3 : O (w.heap.size + 1) = some .nv := by rw [hO]; simp only [if_neg (show ¬ w.heap.size + 1 = pw by omega), if_neg (show ¬ w.heap.size + 1 = w.heap.size by omega), if_true]
  have o4 : ∀ b, dv'.ownBlock = some b → O b = some .dev := fun b hb => by
    have := hnew b hb
    rw [hO]
    simp only [if_neg (show ¬ b = pw by omega), if_neg (show ¬ b = w.heap.size by omega), if_neg (show ¬ b = w.heap.size + 1 by omega), if_pos hb]
  have o5 : ∀ b, b < w.heap.size → b ≠ pw → O b = none := fun b hb hn => by
    rw [hO]
    simp only [if_neg hn, if_neg (show ¬ b = w.heap.size by omega), if_neg (show ¬ b = w.heap.size + 1 by omega)]
    rw [if_neg (fun e => by have := hnew b e; omega)]
  have o6 : ∀ b, O b ≠ none → b < W.heap.size := fun b hb => by
    by_cases q : b < w.heap.size + 2
    · omega
    · rw [hO] at hb
      simp only [if_neg (show ¬ b = pw by omega), if_neg (show ¬ b = w.heap.size by omega), if_neg (show ¬ b = w.heap.size + 1 by omega)] at hb
      by_cases q2 : dv'.ownBlock = some b
      · exact (hnew b q2).2
      · rw [if_neg q2] at hb; exact absurd rfl hb
  clear hO
  refine ⟨O, w.heap.size + 1, rfl, ⟨fun b hb => by rw [hsz]; exact o6 b hb, ?_, Dev.new_ok h1 h2, ?_⟩, o5, hk⟩
  · refine ⟨w.heap.size, .slice none 0 0, [], ?_, o3, (hkS.block _ (by omega) (by omega)).trans hB, o2, OwnV.nil _ _ _, (fun g hg => by cases hg), rfl, fun k u hu => by simp [Dev.new] at hu⟩
    have := hD.move (hkS.block _ (by omega) (show w.heap.size + 1 ≠ pw by omega))
    simp only [Dev.new, List.length_replicate]
    exact this
  · refine ⟨dv', none, 0, hP.set 0 dv', o1, ?_, o4, RI.nil _ _ _, (fun ad he => by cases he), Nat.le_refl _, Nat.zero_le _⟩
    exact hdv'.move fun g hg => hkS.block g (hnew g hg).2 (by have := hnew g hg; omega)

set_option maxRecDepth 20000 in
set_option maxHeartbeats 1000000 in
theorem new_ok (pw n : Nat) (w : World) (hp : PowNew w pw) (h1 : 64 ≤ n) (h2 : n ≤ 67108864) :
    Calls Try.prog 8 #[.pointer (some ⟨pw, 0, none⟩), .int .i64 (n : Int)] w (NewPost w pw n) := by
  obtain ⟨cs, Hcs, hmk⟩ := make_run n (by omega)
  have hcs := Hcs.out
  have hpl := hp.lt
  obtain ⟨w2, hw2⟩ : ∃ w2, w2 = (w.alloc (.cells cs 5)).alloc (.cells #[.pointer (some ⟨pw, 0, none⟩), .slice (some ⟨w.heap.size, 0, none⟩) n n, .slice none 0 0, .int .i64 0] 61) := ⟨_, rfl⟩
  have k2 : Kept (fun _ => True) w w2 := by rw [hw2]; exact ((Kept.refl _ w).alloc _).alloc _
  have hP2 : PowNew w2 pw := Cells.move hp (k2.block pw hpl trivial)
  have Hatt : Hid (Calls Try.prog 24 #[.pointer (some ⟨pw, 0, none⟩), .iface 27 (.pointer (some ⟨w.heap.size + 1, 0, none⟩))] w2 fun e w' => e = .returned (.tuple #[]) ∧ NewPost w pw n (.returned (.tuple #[.pointer (some ⟨w.heap.size + 1, 0, none⟩), .int .i64 0])) w') :=
    (attach_any pw (w.heap.size + 1) (.slice none 0 0) [] w2 (Cells.cell hP2 rfl) (Cells.frozen hP2 0) (Cells.lt hP2) (OwnV.nil _ _ _) (by intro e; cases e) (by simp)).mono fun e w' hpost => new_facts hp h1 h2 (by rw [hw2, hcs]) hpost
  have q0 : w2.cell? ⟨w.heap.size + 1, 0, none⟩ = some (.pointer (some ⟨pw, 0, none⟩)) := by
    have := (Cells.new (w.alloc (.cells cs 5)) #[.pointer (some ⟨pw, 0, none⟩), .slice (some ⟨w.heap.size, 0, none⟩) n n, .slice none 0 0, .int .i64 0] 61).cell (i := 0) rfl
    have e : (w.alloc (.cells cs 5)).heap.size = w.heap.size + 1 := by simp
    rw [e, ← hw2] at this
    exact this
  have b1 : (64 : Int) ≤ (n : Int) := by omega
  have b2 : (n : Int) ≤ 67108864 := by omega
  clear hp hcs hP2 k2 h1 h2
  go_enter Try.func8, Try.ntmps8
  go_upto_region 4 with fail
  rw [← hw2]
  clear hw2
  go_wp2_with (go_at_call 24; refine Hatt.out.mono ?_; rintro e w3 ⟨rfl, hn⟩; have Hn := Lib.hid hn; clear hn)
  go_ret2
  exact Hn.out
set_option maxRecDepth 20000 in
theorem new_bad (v : Value) (n : Int) (w : World) (h : n < 64 ∨ 67108864 < n) : Calls Try.prog 8 #[v, .int .i64 n] w fun e w' => e = .returned (.tuple #[.pointer none, .int .i64 1]) ∧ w = w' := by
  by_cases h1 : n < 64
  · clear h
    go_enter Try.func8, Try.ntmps8
    go_wp2_with fail
    go_ret2
    exact ⟨rfl, rfl⟩
  · have h2 : 67108864 < n := by omega
    have h3 : 64 ≤ n := by omega
    clear h h1
    go_enter Try.func8, Try.ntmps8
    go_wp2_with fail
    go_ret2
    exact ⟨rfl, rfl⟩
end Go.Proofs.Ytoeeppecinjiiaa
