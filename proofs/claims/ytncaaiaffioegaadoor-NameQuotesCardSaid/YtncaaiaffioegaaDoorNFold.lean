/-
  A text folded: the program's way, going rune by rune over bytes of its own.
-/
import Derived.Test.YtncaaiaffioegaaDoorNStr
namespace Go.Proofs.YtncaaiaffioegaaDoor
open Go.RowKit

theorem fold_step (l : List UInt8) (pos : Nat) (h : pos < l.length) :
    (65 ≤ (dec (l.drop pos)).1 ∧ (dec (l.drop pos)).1 ≤ 90 → (dec (l.drop pos)).2 = 1 ∧ l[pos].toNat = (dec (l.drop pos)).1 ∧ (foldL (l.take pos) ++ l.drop pos).set pos (l[pos] + 32) = foldL (l.take (pos + (dec (l.drop pos)).2)) ++ l.drop (pos + (dec (l.drop pos)).2)) ∧
    (¬ (65 ≤ (dec (l.drop pos)).1 ∧ (dec (l.drop pos)).1 ≤ 90) → foldL (l.take pos) ++ l.drop pos = foldL (l.take (pos + (dec (l.drop pos)).2)) ++ l.drop (pos + (dec (l.drop pos)).2)) := by
  have hne : l.drop pos ≠ [] := by
    intro e
    have := congrArg List.length e
    rw [List.length_drop] at this
    simp at this
    omega
  have hg := seg_good _ hne
  have hd := dec_le _ hne
  have hcons : l.drop pos = l[pos] :: l.drop (pos + 1) := List.drop_eq_getElem_cons h
  have htk : ∀ n, l.take (pos + n) = l.take pos ++ (l.drop pos).take n := fun n => List.take_add
  have hdr : ∀ n, l.drop (pos + n) = (l.drop pos).drop n := fun n => (List.drop_drop ..).symm
  rw [htk, hdr]
  have key : seg (l.drop pos) = ⟨(l.drop pos).take (dec (l.drop pos)).2, (dec (l.drop pos)).1, (one (l.drop pos)).2 != 0⟩ := rfl
  generalize (dec (l.drop pos)).2 = n at key hd ⊢
  generalize (dec (l.drop pos)).1 = r at key ⊢
  generalize ((one (l.drop pos)).2 != 0) = ok at key
  rw [key] at hg
  generalize hb : (l.drop pos).take n = b at hg ⊢
  have hsplit : l.drop pos = b ++ (l.drop pos).drop n := by rw [← hb]; exact (List.take_append_drop _ _).symm
  have hfl : foldL (l.take pos ++ b) = foldL (l.take pos) ++ foldL b := by simp [foldL]
  rw [hfl]
  have hlen : (foldL (l.take pos)).length = pos := by simp [foldL]; omega
  cases hg with
  | low x hx =>
    have hn : n = 1 := by
      have := congrArg List.length hb
      rw [List.length_take] at this
      simp only [List.length_singleton] at this
      omega
    subst hn
    have hx2 : l[pos] = x := by
      rw [hcons, List.take_succ_cons] at hb
      exact (List.cons.inj hb).1
    refine ⟨fun hr => ⟨rfl, by rw [hx2], ?_⟩, fun hr => ?_⟩
    · rw [hsplit, hx2, List.set_append_right _ _ (by omega), hlen]
      simp [foldL, foldB, hr]
    · have : foldL [x] = [x] := by simp [foldL, foldB]; intro h1; omega
      rw [this, List.append_assoc, ← hsplit]
  | high bs v h2 h4 hv hm hs hbb he =>
    refine ⟨fun hr => by omega, fun hr => ?_⟩
    have : foldL b = b := by
      unfold foldL
      rw [List.map_congr_left (g := id) (fun x hx => foldB_high x (hbb x hx)), List.map_id]
    rw [this, List.append_assoc, ← hsplit]
  | torn x hx =>
    refine ⟨fun hr => by omega, fun hr => ?_⟩
    have : foldL [x] = [x] := by simp [foldL, foldB_high x hx]
    rw [this, List.append_assoc, ← hsplit]

set_option maxRecDepth 20000 in
set_option maxHeartbeats 400000 in
theorem fold_any (s : ByteArray) (w : World) (hs : s.size ≤ 1099511627776) :
    Calls Tryd.prog 13 #[.string s] w fun e w' => e = .returned (.string ⟨(foldL s.data.toList).toArray⟩) ∧ Below w.heap.size w w' := by
  have hcv := fun (W : World) => run_bytes_of_string (P := Tryd.prog) W 9 36 5 s Tryd.underlying9 Tryd.underlying36 Tryd.underlying5
  have hsl : s.data.toList.length = s.size := rfl
  obtain ⟨l, hl⟩ : ∃ l, l = s.data.toList := ⟨_, rfl⟩
  have Hl := Lib.hid hl
  have Hsl : Hid (l.length = s.size) := by show _ = _; rw [hl]; exact hsl
  rw [← hl]
  clear hl hsl
  go_enter Tryd.func13, Tryd.ntmps13
  go_wp2_with fail
  clear hcv
  have hcap := grownCap_ge w s.size 0 5
  generalize grownCap w s.size 0 5 = cap at hcap ⊢
  go_loopw [] (fun wr => ∃ pos : Nat, pos ≤ s.size ∧ Hid (TB wr w.heap.size (foldL (l.take pos) ++ l.drop pos)) ∧ Hid (wr.heap[w.heap.size + 1]? = some (.stringIter s pos)) ∧ Hid (Below w.heap.size w wr)) (fun wr => s.size - wr.iterPos (w.heap.size + 1))
  case atStart =>
    have h1 := TB.made w s cap hcap
    rw [← Hl.out] at h1
    have h2 : TB ((w.alloc (.cells (bytesRow s cap) 5 ((bytesRow s cap).size, (bytesRow s cap).size + 1))).drew.iter s 0) w.heap.size l := h1.other (by
      unfold World.iter
      rw [Below.heap_alloc _ _ _ (by simp)]
      rfl)
    refine ⟨0, Nat.zero_le _, h2, ?_, ?_⟩
    · have := World.iter_heap (w.alloc (.cells (bytesRow s cap) 5 ((bytesRow s cap).size, (bytesRow s cap).size + 1))).drew s 0
      have e : (w.alloc (.cells (bytesRow s cap) 5 ((bytesRow s cap).size, (bytesRow s cap).size + 1))).drew.heap.size = w.heap.size + 1 := by simp
      rw [e] at this
      exact this
    · exact (((Below.refl _ w).alloc (Nat.le_refl _) _).drew).alloc (by simp) _
  case round =>
    obtain ⟨pos, hpos, htb, hit, hbel⟩ := hrel
    have hsz : w.heap.size + 1 < wr.heap.size := (Array.getElem?_eq_some_iff.1 hit.out).1
    by_cases hp : pos < s.size
    · have hpl : pos < l.length := by rw [Hsl.out]; exact hp
      obtain ⟨st1, st2⟩ := fold_step l pos hpl
      have hdl := dec_le (l.drop pos) (by intro e; have := congrArg List.length e; rw [List.length_drop] at this; simp at this; omega)
      have hdp := dec_pos (l.drop pos)
      have hdc := decode_dec s pos hp
      rw [← Hl.out] at hdc
      rw [List.length_drop, Hsl.out] at hdl
      generalize dec (l.drop pos) = d at hdc st1 st2 hdl hdp
      obtain ⟨r, n⟩ := d
      dsimp only at st1 st2 hdl hdp
      have hnx : ∀ ty, (Instr.next (.pointer (some ⟨w.heap.size + 1, 0, none⟩)) true ty).run Tryd.prog wr = .ok (.tuple #[.bool true, .int .i64 pos, .int .i32 r]) (wr.iterAt (w.heap.size + 1) s (pos + n)) := fun ty => by
        have := Lib.run_next_any_at (P := Tryd.prog) wr (w.heap.size + 1) s pos ty hit.out hp
        rw [hdc] at this
        exact this
      have Hit2 := Lib.hid (Lib.iterAt_heap wr (w.heap.size + 1) s pos (pos + n) hit.out)
      have Htb2 : Hid (TB (wr.iterAt (w.heap.size + 1) s (pos + n)) w.heap.size (foldL (l.take pos) ++ l.drop pos)) := htb.out.other (Lib.iterAt_other _ _ _ _ _ (by omega))
      have Hbel2 : Hid (Below w.heap.size w (wr.iterAt (w.heap.size + 1) s (pos + n))) := Lib.below_iterAt hbel.out (by omega) s (pos + n)
      have St1 := Lib.hid st1
      have St2 := Lib.hid st2
      clear st1 st2 hdc
      by_cases hr : 65 ≤ r ∧ r ≤ 90
      · obtain ⟨h1, h2⟩ := hr
        obtain ⟨rfl, hx, hset⟩ := St1.out ⟨h1, h2⟩
        have hlen : pos < (foldL (l.take pos) ++ l.drop pos).length := by simp [foldL]; omega
        have hat : (foldL (l.take pos) ++ l.drop pos)[pos].toNat = r := by
          have hfl : (foldL (l.take pos)).length = pos := by simp [foldL]; omega
          rw [List.getElem_append_right (by omega)]
          simp only [hfl, Nat.sub_self, List.getElem_drop, Nat.add_zero]
          exact hx
        have hc := Htb2.out.cell hlen
        rw [hat] at hc
        have hf := Htb2.out.frozen hlen
        have Hset : Hid (TB ((wr.iterAt (w.heap.size + 1) s (pos + 1)).setCell ⟨w.heap.size, pos, none⟩ (.int .u8 ((r : Int) + 32))) w.heap.size (foldL (l.take (pos + 1)) ++ l.drop (pos + 1))) := by
          show TB _ _ _
          have := Htb2.out.set pos hlen (l[pos] + 32)
          rw [hset] at this
          have e : ((l[pos] + 32).toNat : Int) = (r : Int) + 32 := by
            rw [UInt8.toNat_add, hx]
            show (((r + 32) % 256 : Nat) : Int) = _
            omega
          rw [e] at this
          exact this
        clear hset hlen hat hx
        go_wp2_with fail
        go_roundw
        case rel => exact ⟨pos + 1, by omega, Hset.out, (Below.heap_setCell _ _ _ _ (by show w.heap.size + 1 ≠ w.heap.size; omega)).trans Hit2.out, Hbel2.out.setCell (Nat.le_refl _) _⟩
        case measure =>
          rw [iterPos_of ((Below.heap_setCell _ _ _ _ (by show w.heap.size + 1 ≠ w.heap.size; omega)).trans Hit2.out), iterPos_of hit.out]
          omega
      · have Hn := Lib.hid (St2.out hr)
        have hr' : (r : Int) < 65 ∨ (65 ≤ (r : Int) ∧ 90 < (r : Int)) := by omega
        clear hr
        rcases hr' with hr' | ⟨hr', hr''⟩
        all_goals
          go_wp2_with fail
          go_roundw
          case rel => exact ⟨pos + n, by omega, by show TB _ _ _; rw [← Hn.out]; exact Htb2.out, Hit2.out, Hbel2.out⟩
          case measure =>
            rw [iterPos_of Hit2.out, iterPos_of hit.out]
            omega
    · have hnx : ∀ ty, (Instr.next (.pointer (some ⟨w.heap.size + 1, 0, none⟩)) true ty).run Tryd.prog wr = .ok (.tuple #[.bool false]) wr := fun ty => Lib.run_next_end_at wr (w.heap.size + 1) s pos ty hit.out hp
      obtain rfl : pos = s.size := by omega
      have Hfin : Hid (foldL (l.take s.size) ++ l.drop s.size = foldL l) := by
        show _ = _
        rw [← Hsl.out, List.take_length, List.drop_length, List.append_nil]
      have hcv := run_convert_bytes_back (P := Tryd.prog) wr 36 9 5 ⟨w.heap.size, 0, none⟩ cap (foldL l) Tryd.underlying36 Tryd.underlying5 Tryd.underlying9 (fun j hj => by
        have := htb.out
        rw [Hfin.out] at this
        have := this.cell hj
        rw [add_flat, Nat.zero_add]
        exact this)
      have hfl : (foldL l).length = s.size := by rw [← Hsl.out]; simp [foldL]
      rw [hfl] at hcv
      go_wp2_with fail
      go_ret
      exact ⟨rfl, hbel.out⟩
end Go.Proofs.YtncaaiaffioegaaDoor
