/-
  A drive is made, and hung on the power.
-/
import Derived.Test.YtdnlikhfemhmeaaZNew
namespace Go.Proofs.Ytdnlikhfemhmeaa
open Go.RowKit

theorem made_at (z : Array Value) (n i : Nat) (h : i < n) : (madeCells z n).toList[i]? = some (z[i % z.size]!) := by
  rw [Array.getElem?_toList]
  simp only [madeCells, Array.getElem?_map, Array.getElem?_range, if_pos h, Option.map_some]
theorem make_piles (n : Nat) (hn : n ≤ 4096) : ∃ cs : List Value, cs.length = n * 2 ∧ (∀ z, z < n → cs[z * 2]? = some (.slice none 0 0) ∧ cs[z * 2 + 1]? = some (.int .i64 0)) ∧
    ∀ u : World, (Instr.makeSlice 69 (.int .i64 (n : Int)) (.int .i64 (n : Int))).run Try.prog u = .ok (.slice (some ⟨u.heap.size, 0, none⟩) n n) (u.alloc (.cells cs.toArray 91)) := by
  obtain ⟨i0, hi, hz0, hz1, hz2⟩ := info_parts info_pile
  refine ⟨(madeCells #[.slice none 0 0, .int .i64 0] (n * 2)).toList, by simp [size_madeCells], fun z hz => ?_, fun u => ?_⟩
  · constructor
    · rw [made_at _ _ _ (by omega)]
      have e : (z * 2) % 2 = 0 := by omega
      simp [e]
    · rw [made_at _ _ _ (by omega)]
      have e : (z * 2 + 1) % 2 = 1 := by omega
      simp [e]
  · have h := run_make (P := Try.prog) u 69 91 i0 _ Try.underlying69 hi hz0 .i64 .i64 (n : Int) (n : Int) (by omega) (Int.le_refl _) (by rw [hz2]; omega) (by omega)
    rw [h]
    simp only [Int.toNat_natCast, hz1]
    rfl

def NewPost (w : World) (O : Nat → Option Tag) (pw : Nat) (P : Pow) (ds : List (Nat × Drv)) (D : Drv) (e : Ending) (w' : World) : Prop :=
  ∃ (O' : Nat → Option Tag) (d : Nat), e = .returned (.tuple #[.pointer (some ⟨d, 0, none⟩), .int .i64 0]) ∧ SysAt w' O' pw P (ds ++ [(d, D)]) ∧ Ext w O w' O'

theorem new_facts {w : World} {O : Nat → Option Tag} {pw : Nat} {P : Pow} {ds : List (Nat × Drv)} {cs : List Value} {zones cap size : Nat} (h : SysAt w O pw P ds) (hcl : cs.length = zones * 2)
    (hcs : ∀ z, z < zones → cs[z * 2]? = some (.slice none 0 0) ∧ cs[z * 2 + 1]? = some (.int .i64 0)) (hok : (Drv.new zones cap size).Ok) {w2 w' : World} {e : Ending} {dv : Value} {A : Option Addr} {c : Nat}
    (hw2 : w2 = (w.alloc (.cells cs.toArray 91)).alloc (.cells #[.pointer (some ⟨pw, 0, none⟩), .slice (some ⟨w.heap.size, 0, none⟩) zones zones, .int .i64 (cap : Int), .int .i64 (size : Int), .bool false] 71))
    (h1 : Cells w pw 68 [dv, .bool P.off, .int .i64 (P.writes : Int), .int .i64 (P.left : Int), .slice A P.picks.length c]) (h2 : O pw = some .pw) (h3 : OwnV w 0 98 dv ((ds.map (·.1)).map devV)) (h4 : ∀ g, dv.ownBlock = some g → O g = some .dev)
    (h5 : RI w w.heap.size A P.picks) (h6 : ∀ ad, A = some ad → O ad.block = some .picks) (h7 : P.picks.length ≤ c ∧ P.picks.length ≤ 1099511627776)
    (hpost : AttPost w2 pw (w.heap.size + 1) dv ((ds.map (·.1)).map devV) e w') :
    e = .returned (.tuple #[]) ∧ NewPost w O pw P ds (Drv.new zones cap size) (.returned (.tuple #[.pointer (some ⟨w.heap.size + 1, 0, none⟩), .int .i64 0])) w' := by
  obtain ⟨dv', W, rfl, rfl, hdv', hkW, hb'⟩ := hpost
  refine ⟨rfl, ?_⟩
  have hs2 : w2.heap.size = w.heap.size + 2 := by rw [hw2]; simp
  have k2 : Kept (fun _ => True) w w2 := by rw [hw2]; exact ((Kept.refl _ w).alloc _).alloc _
  have hg : Cells w2 w.heap.size 91 cs := by rw [hw2]; exact (Cells.new w cs.toArray _).alloc _
  have hd : Cells w2 (w.heap.size + 1) 71 [.pointer (some ⟨pw, 0, none⟩), .slice (some ⟨w.heap.size, 0, none⟩) zones zones, .int .i64 (cap : Int), .int .i64 (size : Int), .bool false] := by
    rw [hw2]
    have := Cells.new (w.alloc (.cells cs.toArray 91)) #[.pointer (some ⟨pw, 0, none⟩), .slice (some ⟨w.heap.size, 0, none⟩) zones zones, .int .i64 (cap : Int), .int .i64 (size : Int), .bool false] 71
    simpa using this
  have hdvlt : ∀ b, dv.ownBlock = some b → b < w.heap.size := fun b hb => (h3.ge b hb).2
  have hpwlt := h1.lt
  have hdvpw : dv.ownBlock ≠ some pw := fun e => by have := h4 pw e; rw [h2] at this; cases this
  have hdv'lt : ∀ b, dv'.ownBlock = some b → b < W.heap.size := fun b hb => (hdv'.ge b hb).2
  have hdv'n : ∀ b, dv'.ownBlock = some b → dv.ownBlock = some b ∨ w.heap.size + 2 ≤ b := by
    intro b hb
    rcases hb' with q | ⟨b2, q, q2⟩
    · exact .inl (q ▸ hb)
    · rw [q] at hb; cases hb; omega
  have hdv'pw : dv'.ownBlock ≠ some pw := by
    intro e
    rcases hdv'n pw e with q | q
    · exact hdvpw q
    · omega
  have hk : Kept (fun b => dv.ownBlock ≠ some b ∧ b ≠ pw) w (W.setCell ⟨pw, 0, none⟩ dv') := by
    refine Kept.setCell (Kept.trans (k2.mono fun _ _ _ => trivial) (hkW.mono fun b _ hb => hb.1)) (fun hh => hh.2 rfl) _
  have hk2 : Kept (fun b => dv.ownBlock ≠ some b ∧ b ≠ pw) w2 (W.setCell ⟨pw, 0, none⟩ dv') := (hkW.mono fun b _ hb => hb.1).setCell (fun hh => hh.2 rfl) _
  have hsz : (W.setCell ⟨pw, 0, none⟩ dv').heap.size = W.heap.size := by simp [World.setCell]
  have hWsz : w.heap.size + 2 ≤ W.heap.size := by have := hkW.size; omega
  obtain ⟨O', hO'⟩ : ∃ O' : Nat → Option Tag, O' = fun b => if b < w.heap.size then O b else if b = w.heap.size then some (.piles ds.length) else if b = w.heap.size + 1 then some (.drv ds.length) else if dv'.ownBlock = some b then some .dev else none := ⟨_, rfl⟩
  have o1 : ∀ b, b < w.heap.size → O' b = O b := fun b hb => by rw [hO']; simp only [if_pos hb]
  have o2 : O' w.heap.size = some (.piles ds.length) := by rw [hO']; simp
  have o3 : O' (w.heap.size + 1) = some (.drv ds.length) := by rw [hO']; simp only [if_neg (show ¬ w.heap.size + 1 < w.heap.size by omega), if_neg (show ¬ w.heap.size + 1 = w.heap.size by omega), if_true]
  have o4 : ∀ b, w.heap.size + 2 ≤ b → O' b = if dv'.ownBlock = some b then some .dev else none := fun b hb => by rw [hO']; simp only [if_neg (show ¬ b < w.heap.size by omega), if_neg (show ¬ b = w.heap.size by omega), if_neg (show ¬ b = w.heap.size + 1 by omega)]
  clear hO'
  have hKd : ∀ b t, O b = some t → t ≠ .dev → t ≠ .pw → dv.ownBlock ≠ some b ∧ b ≠ pw := fun b t hb n1 n2 => ⟨fun e => n1 (by have := h4 b e; rw [hb] at this; cases this; rfl), fun e => n2 (by rw [e, h2] at hb; cases hb; rfl)⟩
  refine ⟨O', w.heap.size + 1, rfl, ⟨fun b hb => ?_, fun i d D hi => ?_, ?_⟩, hk.mono (fun b _ hb => ⟨(fun e => by rw [h4 b e] at hb; cases hb), (fun e => by rw [e, h2] at hb; cases hb)⟩), o1⟩
  · rw [hsz]
    by_cases q1 : b < w.heap.size + 2
    · omega
    · rw [o4 b (by omega)] at hb
      by_cases q2 : dv'.ownBlock = some b
      · exact hdv'lt b q2
      · rw [if_neg q2] at hb; exact absurd rfl hb
  · by_cases hil : i < ds.length
    · rw [List.getElem?_append_left hil] at hi
      obtain ⟨q1, q2⟩ := h.drv i d D hi
      refine ⟨q1.keep (T := fun t => t ≠ .dev ∧ t ≠ .pw) (fun b t hlt hb ht => ⟨hk.block b hlt (hKd b t hb ht.1 ht.2), (o1 b hlt).trans hb⟩) (fun t ht => ⟨(by intro e; subst e; cases ht), (by intro e; subst e; cases ht)⟩), q2⟩
    · rw [List.getElem?_append_right (by omega)] at hi
      have e0 : i - ds.length = 0 := by
        have := (List.getElem?_eq_some_iff.1 hi).1
        simp at this
        omega
      rw [e0] at hi
      have ei : i = ds.length := by omega
      subst ei
      cases hi
      refine ⟨⟨w.heap.size, cs, ?_, o3, ?_, o2, ?_, fun z p hz => ?_⟩, hok⟩
      · have := hd.move (hk2.block (w.heap.size + 1) (by omega) ⟨fun e => by have := hdvlt _ e; omega, by omega⟩)
        simpa [Drv.new] using this
      · exact hg.move (hk2.block w.heap.size (by omega) ⟨fun e => by have := hdvlt _ e; omega, by omega⟩)
      · simpa [Drv.new] using hcl
      · have hzl : z < zones := by have := (List.getElem?_eq_some_iff.1 hz).1; simpa [Drv.new] using this
        have ep : p = ⟨[], 0⟩ := by have := List.mem_of_getElem? hz; exact List.eq_of_mem_replicate this
        subst ep
        exact ⟨_, (hcs z hzl).1, (hcs z hzl).2, [], OwnV.nil _ _ _, (fun g hg => by cases hg), rfl, fun k l hl => by simp at hl⟩
  · refine ⟨dv', A, c, ?_, (o1 pw hpwlt).trans h2, ?_, fun b hb => ?_, ?_, fun ad he => ?_, h7⟩
    · have q1 : Cells W pw 68 [dv, .bool P.off, .int .i64 (P.writes : Int), .int .i64 (P.left : Int), .slice A P.picks.length c] := (h1.move (k2.block pw hpwlt trivial)).move (hkW.block pw (by omega) hdvpw)
      exact q1.set 0 dv'
    · have q1 := hdv'.move (w' := W.setCell ⟨pw, 0, none⟩ dv') fun b hb => Below.heap_setCell _ _ _ _ (fun e => hdv'pw ((show b = pw from e) ▸ hb))
      simpa using q1
    · rcases hdv'n b hb with q | q
      · exact (o1 b (hdvlt b q)).trans (h4 b q)
      · rw [o4 b q, if_pos hb]
    · exact (h5.kept hk (fun ad he => hKd _ _ (h6 ad he) (by intro e; cases e) (by intro e; cases e)) (Nat.le_refl _)).wide hk.size
    · exact (o1 _ (h.fresh _ (by rw [h6 ad he]; simp))).trans (h6 ad he)

set_option maxRecDepth 20000 in
set_option maxHeartbeats 1000000 in
theorem new_ok (pw : Nat) (P : Pow) (ds : List (Nat × Drv)) (O : Nat → Option Tag) (zones cap size : Nat) (w : World) (h : SysAt w O pw P ds) (hn : ds.length ≤ 1048576) (z1 : 1 ≤ zones) (z2 : zones ≤ 4096) (p1 : 1 ≤ cap) (p2 : cap ≤ 4096) (s1 : 32 ≤ size) (s2 : size ≤ 65536) :
    Calls Try.prog 9 #[.pointer (some ⟨pw, 0, none⟩), .int .i64 (zones : Int), .int .i64 (cap : Int), .int .i64 (size : Int)] w (NewPost w O pw P ds (Drv.new zones cap size)) := by
  obtain ⟨cs, hcl, hcs, hmk⟩ := make_piles zones z2
  obtain ⟨dv, A, c, h1, h2, h3, h4, h5, h6, h7⟩ := h.pow
  obtain ⟨w2, hw2⟩ : ∃ w2, w2 = (w.alloc (.cells cs.toArray 91)).alloc (.cells #[.pointer (some ⟨pw, 0, none⟩), .slice (some ⟨w.heap.size, 0, none⟩) zones zones, .int .i64 (cap : Int), .int .i64 (size : Int), .bool false] 71) := ⟨_, rfl⟩
  have hk2 : Kept (fun _ => True) w w2 := by rw [hw2]; exact ((Kept.refl _ w).alloc _).alloc _
  have q1 : Cells w2 pw 68 [dv, .bool P.off, .int .i64 (P.writes : Int), .int .i64 (P.left : Int), .slice A P.picks.length c] := h1.move (hk2.block pw h1.lt trivial)
  have q3 : OwnV w2 0 98 dv ((ds.map (·.1)).map devV) := h3.move fun g hg => hk2.block g (h3.ge g hg).2 trivial
  have hatt := attach_any pw (w.heap.size + 1) dv _ w2 (q1.cell (i := 0) rfl) (q1.frozen 0) q1.lt q3 (fun e => by have := h4 pw e; rw [h2] at this; cases this) (by simpa using hn)
  have hfin := fun e w' hp => new_facts (e := e) (w' := w') h hcl hcs (Drv.new_ok z2 p2 s1 s2) hw2 h1 h2 h3 h4 h5 h6 h7 hp
  have Hatt : Hid (Calls Try.prog 25 #[.pointer (some ⟨pw, 0, none⟩), .iface 36 (.pointer (some ⟨w.heap.size + 1, 0, none⟩))] w2 fun e w' =>
      e = .returned (.tuple #[]) ∧ NewPost w O pw P ds (Drv.new zones cap size) (.returned (.tuple #[.pointer (some ⟨w.heap.size + 1, 0, none⟩), .int .i64 0])) w') := hatt.mono fun e w' hp => hfin e w' hp
  rw [hw2] at Hatt
  have a1 : (1 : Int) ≤ (zones : Int) := by omega
  have a2 : (zones : Int) ≤ 4096 := by omega
  have a3 : (1 : Int) ≤ (cap : Int) := by omega
  have a4 : (cap : Int) ≤ 4096 := by omega
  have a5 : (32 : Int) ≤ (size : Int) := by omega
  have a6 : (size : Int) ≤ 65536 := by omega
  clear hfin hatt q1 q3 hk2 hw2 h1 h2 h3 h4 h5 h6 h7 hcl hcs h z1 z2 p1 p2 s1 s2 hn
  go_enter Try.func9, Try.ntmps9
  go_wp2_with (go_at_call 25; refine Hatt.out.mono ?_; rintro e w3 ⟨rfl, hnp⟩; have Hnp := Lib.hid hnp; clear hnp)
  go_ret2
  exact Hnp.out
end Go.Proofs.Ytdnlikhfemhmeaa
