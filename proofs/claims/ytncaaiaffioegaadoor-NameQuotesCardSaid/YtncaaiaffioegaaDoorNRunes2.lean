/-
  A text's runes, by the program.
-/
import Derived.Test.YtncaaiaffioegaaDoorNRunes
import Derived.Test.YtncaaiaffioegaaDoorNOwn
namespace Go.Proofs.YtncaaiaffioegaaDoor
open Go.RowKit

def i32s (l : List Nat) : List Value := l.map fun (r : Nat) => Value.int .i32 (r : Int)
def i64s (l : List Nat) : List Value := l.map fun (r : Nat) => Value.int .i64 (r : Int)
theorem info32 : (Tryd.prog.info? 21).map (fun i => (i.zero, i.size, i.bytes)) = some (some (.int .i32 0), 1, 4) := by kernel_rfl
theorem info64 : (Tryd.prog.info? 3).map (fun i => (i.zero, i.size, i.bytes)) = some (some (.int .i64 0), 1, 8) := by kernel_rfl

theorem make_runes (n : Nat) (hn : n ≤ 1099511627776) : ∃ cs : Array Value, Hid (cs.size = n) ∧
    ∀ u : World, (Instr.makeSlice 46 (.int .i64 0) (.int .i64 (n : Int))).run Tryd.prog u = .ok (.slice (some ⟨u.heap.size, 0, none⟩) 0 n) (u.alloc (.cells cs 21)) := by
  obtain ⟨i0, hi, hz0, hz1, hz2⟩ := info_parts info32
  refine ⟨madeCells #[Value.int .i32 0] n, size_madeCells _ _, fun u => ?_⟩
  have h := run_make (P := Tryd.prog) u 46 21 i0 (.int .i32 0) Tryd.underlying46 hi hz0 .i64 .i64 0 (n : Int) (by omega) (by omega) (by rw [hz2]; omega) (by omega)
  rw [h]
  simp only [Int.toNat_natCast, hz1, Nat.mul_one]
  rfl

/-- runes that go on -/
theorem runes_step (l : List UInt8) (pos : Nat) (h : pos < l.length) (L : List Nat) (hL : runesOf l = (runesOf (l.drop pos)).map (L ++ ·)) :
    ((one (l.drop pos)).2 = 0 → runesOf l = none) ∧ ((one (l.drop pos)).2 ≠ 0 → (dec (l.drop pos)) = one (l.drop pos) ∧ runesOf l = (runesOf (l.drop (pos + (one (l.drop pos)).2))).map ((L ++ [(one (l.drop pos)).1]) ++ ·)) := by
  refine ⟨fun h0 => ?_, fun h0 => ⟨by simp [dec, h0], ?_⟩⟩
  · rw [hL, runesOf_torn _ (drop_ne h) h0]
    rfl
  · rw [hL, runesOf_more _ (drop_ne h) h0, List.drop_drop, Option.map_map]
    congr 1
    funext x
    simp
theorem runes_end (l : List UInt8) (L : List Nat) (hL : runesOf l = (runesOf (l.drop l.length)).map (L ++ ·)) : runesOf l = some L := by
  rw [hL, List.drop_length, runesOf_nil]
  simp

/-- what the readers of runes tell -/
def runesL (l : List UInt8) : List Nat := (runesOf l).getD []
def runesB (l : List UInt8) : Bool := (runesOf l).isSome

set_option maxRecDepth 20000 in
set_option maxHeartbeats 400000 in
theorem runes_any (s : ByteArray) (w : World) (hs : s.size ≤ 1099511627776) :
    Calls Tryd.prog 23 #[.string s] w fun e w' => ∃ v, e = .returned (.tuple #[v, .bool (runesB s.data.toList)]) ∧ OwnV w' w.heap.size 21 v (i32s (runesL s.data.toList)) ∧ Below w.heap.size w w' := by
  have hsl : s.data.toList.length = s.size := rfl
  obtain ⟨l, hl⟩ : ∃ l, l = s.data.toList := ⟨_, rfl⟩
  have Hl := Lib.hid hl
  have Hsl : Hid (l.length = s.size) := by show _ = _; rw [hl]; exact hsl
  rw [← hl]
  clear hl hsl
  have hs' : (s.size : Int) ≤ 1099511627776 := by omega
  go_enter Tryd.func23, Tryd.ntmps23
  go_wp2_with fail
  refine (runeCount_any s w hs).mono ?_
  rintro e W1 ⟨n, rfl, hn, hb1⟩
  have Hb1 := Lib.hid hb1
  obtain ⟨cs, hcs, hmk⟩ := make_runes n (by omega)
  have hn' : (n : Int) ≤ 1099511627776 := by omega
  clear hb1
  go_wp2_with fail
  go_loopw [4] (fun d wr => ∃ (pos : Nat) (L : List Nat), pos ≤ s.size ∧ Hid (L.length ≤ pos) ∧ Hid (OwnV wr w.heap.size 21 d (i32s L)) ∧ Hid (wr.heap[W1.heap.size + 1]? = some (.stringIter s pos)) ∧ Hid (Below w.heap.size w wr) ∧ Hid (runesOf l = (runesOf (l.drop pos)).map (L ++ ·))) (fun _ wr => s.size - wr.iterPos (W1.heap.size + 1))
  case atStart =>
    have h1 : OwnV (W1.alloc (.cells cs 21)) w.heap.size 21 (.slice (some ⟨W1.heap.size, 0, none⟩) 0 n) [] := OwnV.made W1 cs n Hb1.out.size (by omega) hcs.out
    refine ⟨0, [], Nat.zero_le _, Nat.le_refl _, h1.alloc _, ?_, ((Hb1.out.alloc Hb1.out.size _).alloc (Nat.le_trans Hb1.out.size (by simp)) _), ?_⟩
    · have := World.iter_heap (W1.alloc (.cells cs 21)) s 0
      have e : (W1.alloc (.cells cs 21)).heap.size = W1.heap.size + 1 := by simp
      rw [e] at this
      exact this
    · show runesOf l = _
      simp
  case round =>
    obtain ⟨pos, L, hpos, hLn, hown, hit, hbel, hL⟩ := hrel
    have hwsz := hbel.out.size
    have hW1 := Hb1.out.size
    by_cases hp : pos < s.size
    · have hpl : pos < l.length := by rw [Hsl.out]; exact hp
      have hnx := fun ty => next_at (w := wr) hit.out hp ty
      rw [← Hl.out] at hnx
      have hdl := dec_le _ (drop_ne hpl)
      rw [List.length_drop, Hsl.out] at hdl
      have hdp := dec_pos (l.drop pos)
      have hst := runes_step l pos hpl L hL.out
      have Hx : Hid ((s.extract pos s.size).data.toList = l.drop pos) := by show _ = _; rw [extract_tail, ← Hl.out]
      have htorn := fun (r : Nat) (hr : r = (dec (l.drop pos)).1) (W : World) => torn_any (s.extract pos s.size) r W (by rw [extract_size]; omega) (by rw [Hx.out]; exact hr) (by rw [Hx.out]; exact drop_ne hpl)
      rw [Hx.out] at htorn
      have Htorn := Lib.hid htorn
      have Hst := Lib.hid hst
      have hrl := dec_lt (l.drop pos)
      generalize hd : dec (l.drop pos) = d at hnx hdl hdp Htorn hrl
      have Hd := Lib.hid hd
      obtain ⟨r, k⟩ := d
      dsimp only at hnx hdl hdp hrl
      have Ht : Hid (∀ W : World, Calls Tryd.prog 16 #[.string (s.extract pos s.size), .int .i32 (r : Int)] W fun e w' => e = .returned (.bool ((one (l.drop pos)).2 == 0)) ∧ W = w') := fun W => Htorn.out r rfl W
      have Hit2 := Lib.hid (Lib.iterAt_heap wr (W1.heap.size + 1) s pos (pos + k) hit.out)
      have Hbel2 : Hid (Below w.heap.size w (wr.iterAt (W1.heap.size + 1) s (pos + k))) := Lib.below_iterAt hbel.out (by omega) s (pos + k)
      have Hown2 := Lib.hid (hown.out.iterAt hit.out (pos + k))
      have Hsz2 : Hid (w.heap.size ≤ (wr.iterAt (W1.heap.size + 1) s (pos + k)).heap.size) := Hbel2.out.size
      clear hst htorn Htorn hd
      by_cases h0 : (one (l.drop pos)).2 = 0
      · have hn := Hst.out.1 h0
        have hb0 : ((one (l.drop pos)).2 == 0) = true := by simp [h0]
        rw [hb0] at Ht
        clear h0 Hst hb0
        go_wp2_with fail
        refine (Ht.out _).mono ?_
        rintro e w' ⟨rfl, rfl⟩
        go_wp2_with fail
        go_ret2
        exact ⟨_, by rw [runesB, hn]; rfl, by rw [runesL, hn]; exact OwnV.nil _ _ _, Hbel2.out⟩
      · obtain ⟨hd1, hL2⟩ := Hst.out.2 h0
        have hb0 : ((one (l.drop pos)).2 == 0) = false := by simp [h0]
        rw [hb0] at Ht
        have hk : (one (l.drop pos)).2 = k := by rw [← hd1, Hd.out]
        have hr : (one (l.drop pos)).1 = r := by rw [← hd1, Hd.out]
        rw [hk, hr] at hL2
        have HL2 := Lib.hid hL2
        have hil : (i32s L).length = L.length := by simp [i32s]
        have Hil : Hid ((i32s L).length + 1 ≤ 1099511627777) := by show _ ≤ _; rw [hil]; have := hLn.out; omega
        clear hd1 hL2 hb0 h0 hk hr Hst hil
        go_wp2_with fail
        refine (Ht.out _).mono ?_
        rintro e w' ⟨rfl, rfl⟩
        go_wp2_with (at_builtin; go_must (refine app_one rfl (.tmp 21) (.tmp 23) 46 21 rfl Tryd.underlying46 _ 4 info32 rfl w.heap.size _ _ rfl (OwnV.alloc Hown2.out _) ⟨(wr.iterAt (W1.heap.size + 1) s (pos + k)).heap.size, 0, none⟩ 1 (.int .i32 (r : Int)) rfl (cell_new _ _ _) rfl (by have := Hil.out; omega) (by have := Hil.out; omega) (Nat.le_trans Hsz2.out (by simp)) ?_); intro v3 w3 hown3 hbel3 hg3)
        have Hit3 : Hid (w3.heap[W1.heap.size + 1]? = some (.stringIter s (pos + k))) := iter_grown (OwnV.alloc Hown2.out _) ((Below.heap_alloc _ _ _ (Array.getElem?_eq_some_iff.1 Hit2.out).1).trans Hit2.out) hg3
        have hin : i32s L ++ [.int .i32 (r : Int)] = i32s (L ++ [r]) := by simp [i32s]
        rw [hin] at hown3
        exact ⟨⟨pos + k, L ++ [r], by omega, by show _ ≤ _; rw [List.length_append, List.length_singleton]; have := hLn.out; omega, hown3, Hit3.out, (Hbel2.out.alloc Hsz2.out _).trans hbel3, HL2.out⟩, by rw [iterPos_of Hit3.out, iterPos_of hit.out]; omega⟩
    · have hnx : ∀ ty, (Instr.next (.pointer (some ⟨W1.heap.size + 1, 0, none⟩)) true ty).run Tryd.prog wr = .ok (.tuple #[.bool false]) wr := fun ty => Lib.run_next_end_at wr (W1.heap.size + 1) s pos ty hit.out hp
      obtain rfl : pos = s.size := by omega
      have hL2 := hL.out
      rw [← Hsl.out] at hL2
      have Hfin := Lib.hid (runes_end l L hL2)
      clear hL2
      go_wp2_with fail
      go_ret2
      exact ⟨_, by rw [runesB, Hfin.out]; rfl, by rw [runesL, Hfin.out]; exact hown.out, hbel.out⟩
end Go.Proofs.YtncaaiaffioegaaDoor
