/-
  A text quoted, by the program.
-/
import Derived.Test.YtncaaiaffioegaaDoorNHex
namespace Go.Proofs.YtncaaiaffioegaaDoor
open Go.RowKit

theorem quote_step (l : List UInt8) (pos : Nat) (h : pos < l.length) :
    (segsOf (l.drop pos)).flatMap qp = (if (dec (l.drop pos)).1 = 34 ∨ (dec (l.drop pos)).1 = 92 then [92, UInt8.ofNat (dec (l.drop pos)).1]
      else if (dec (l.drop pos)).1 < 32 ∨ (dec (l.drop pos)).1 = 127 ∨ (one (l.drop pos)).2 = 0 then qhex (l.getD pos 0) else Lib.encodeRune ((dec (l.drop pos)).1 : Int)) ++ (segsOf (l.drop (pos + (dec (l.drop pos)).2))).flatMap qp ∧
    ((one (l.drop pos)).2 ≠ 0 → (dec (l.drop pos)).1 < 55296 ∨ 57344 ≤ (dec (l.drop pos)).1) := by
  have hcons : l.drop pos = l[pos] :: l.drop (pos + 1) := List.drop_eq_getElem_cons h
  have hp := dec_pos (l.drop pos)
  have hf := (one_facts (l.drop pos)).2.2.2.1
  refine ⟨?_, fun h0 => by rw [show dec (l.drop pos) = one (l.drop pos) by simp [dec, h0]]; exact hf h0⟩
  rw [segsOf_cons _ (drop_ne h), List.flatMap_cons, List.drop_drop]
  congr 1
  have hg : l.getD pos 0 = l[pos] := by rw [List.getD_eq_getElem?_getD, List.getElem?_eq_getElem h]; rfl
  have hd : (((l.drop pos).take (dec (l.drop pos)).2).getD 0 0) = l[pos] := by
    rw [hcons]
    obtain ⟨m, hm⟩ : ∃ m, (dec (l[pos] :: l.drop (pos + 1))).2 = m + 1 := ⟨(dec (l[pos] :: l.drop (pos + 1))).2 - 1, by rw [← hcons]; omega⟩
    rw [hm]
    rfl
  unfold qp seg
  dsimp only
  rw [hd, hg]
  by_cases h0 : (one (l.drop pos)).2 = 0
  · have e : (dec (l.drop pos)).1 = 65533 := by simp [dec, h0]
    simp [e, h0]
  · have e : dec (l.drop pos) = one (l.drop pos) := by simp [dec, h0]
    rw [e, encode_one _ h0]
    simp [h0]

set_option maxRecDepth 200000 in
set_option maxHeartbeats 1000000 in
theorem quote_any (s : ByteArray) (w : World) (hs : s.size ≤ 4294967296) :
    Calls Tryd.prog 8 #[.string s] w fun e w' => e = .returned (.string ⟨(quoteL s.data.toList).toArray⟩) ∧ Below w.heap.size w w' := by
  obtain ⟨l, hl⟩ : ∃ l, l = s.data.toList := ⟨_, rfl⟩
  have Hl := Lib.hid hl
  have Hsl : Hid (l.length = s.size) := by show _ = _; rw [hl]; rfl
  rw [← hl]
  clear hl
  have hs' : (s.size : Int) ≤ 4294967296 := by omega
  go_enter Tryd.func8, Tryd.ntmps8
  go_wp2_with fail
  go_loopw [3] (fun d wr => ∃ (pos : Nat) (acc : List UInt8), pos ≤ s.size ∧ Hid (acc.length ≤ 4 * pos + 1) ∧ Hid (Own wr w.heap.size d acc) ∧ Hid (wr.heap[w.heap.size + 1]? = some (.stringIter s pos)) ∧ Hid (Below w.heap.size w wr) ∧ Hid (34 :: (segsOf l).flatMap qp = acc ++ (segsOf (l.drop pos)).flatMap qp)) (fun _ wr => s.size - wr.iterPos (w.heap.size + 1))
  case atStart =>
    have hblk : Blk (w.alloc (.cells #[.int .u8 34] 5)) w.heap.size [34] := heap_alloc_new w _
    refine ⟨0, [34], Nat.zero_le _, Nat.le_refl _, (hblk.own (Nat.le_refl _) (by simp)).alloc _, ?_, (((Below.refl _ w).alloc (Nat.le_refl _) _).alloc (by simp) _), rfl⟩
    have := World.iter_heap (w.alloc (.cells #[.int .u8 34] 5)) s 0
    have e : (w.alloc (.cells #[.int .u8 34] 5)).heap.size = w.heap.size + 1 := by simp
    rw [e] at this
    exact this
  case round =>
    obtain ⟨pos, acc, hpos, hacc, hown, hit, hbel, hq⟩ := hrel
    by_cases hp : pos < s.size
    · have hpl : pos < l.length := by rw [Hsl.out]; exact hp
      have hnx := fun ty => next_at hit.out hp ty
      rw [← Hl.out] at hnx
      have hix := fun W => index_at s pos hp W
      rw [← Hl.out] at hix
      have hdl := dec_le _ (drop_ne hpl)
      rw [List.length_drop, Hsl.out] at hdl
      have hdp := dec_pos (l.drop pos)
      have hrl := dec_lt (l.drop pos)
      have Hst := Lib.hid (quote_step l pos hpl)
      have Hx : Hid ((s.extract pos s.size).data.toList = l.drop pos) := by show _ = _; rw [extract_tail, ← Hl.out]
      have htorn := fun (r : Nat) (hr : r = (dec (l.drop pos)).1) (W : World) => torn_any (s.extract pos s.size) r W (by rw [extract_size]; omega) (by rw [Hx.out]; exact hr) (by rw [Hx.out]; exact drop_ne hpl)
      rw [Hx.out] at htorn
      have Htorn := Lib.hid htorn
      generalize dec (l.drop pos) = d at hnx hdl hdp hrl Hst Htorn
      obtain ⟨r, k⟩ := d
      dsimp only at hnx hdl hdp hrl Hst
      have Ht : Hid (∀ W : World, Calls Tryd.prog 16 #[.string (s.extract pos s.size), .int .i32 (r : Int)] W fun e w' => e = .returned (.bool ((one (l.drop pos)).2 == 0)) ∧ W = w') := fun W => Htorn.out r rfl W
      have Hit2 := Lib.hid (Lib.iterAt_heap wr (w.heap.size + 1) s pos (pos + k) hit.out)
      have Hbel2 : Hid (Below w.heap.size w (wr.iterAt (w.heap.size + 1) s (pos + k))) := Lib.below_iterAt hbel.out (by omega) s (pos + k)
      have Hown2 := Lib.hid (hown.out.iterAt hit.out (pos + k))
      have Hsz2 : Hid (w.heap.size ≤ (wr.iterAt (w.heap.size + 1) s (pos + k)).heap.size) := Hbel2.out.size
      generalize l.getD pos 0 = x8 at hix Hst
      have Hal : Hid (acc.length ≤ 1099511627776) := by show _ ≤ _; have := hacc.out; omega
      have Hhex := Lib.hid (addHex_any _ w.heap.size acc x8 _ Hown2.out Hsz2.out Hal.out)
      have Fin : Hid (∀ (piece : List UInt8) (v3 : Value) (w3 : World), (segsOf (l.drop pos)).flatMap qp = piece ++ (segsOf (l.drop (pos + k))).flatMap qp → piece.length ≤ 4 → Own w3 w.heap.size v3 (acc ++ piece) → w3.heap[w.heap.size + 1]? = some (.stringIter s (pos + k)) → Below w.heap.size w w3 →
          (∃ (pos : Nat) (acc : List UInt8), pos ≤ s.size ∧ Hid (acc.length ≤ 4 * pos + 1) ∧ Hid (Own w3 w.heap.size v3 acc) ∧ Hid (w3.heap[w.heap.size + 1]? = some (.stringIter s pos)) ∧ Hid (Below w.heap.size w w3) ∧ Hid (34 :: (segsOf l).flatMap qp = acc ++ (segsOf (l.drop pos)).flatMap qp)) ∧ s.size - w3.iterPos (w.heap.size + 1) < s.size - wr.iterPos (w.heap.size + 1)) := by
        intro piece v3 w3 h1 h2 h3 h4 h5
        refine ⟨⟨pos + k, acc ++ piece, by omega, ?_, h3, h4, h5, ?_⟩, ?_⟩
        · show _ ≤ _
          rw [List.length_append]
          have := hacc.out
          omega
        · show _ = _
          rw [hq.out, h1, List.append_assoc]
        · rw [iterPos_of h4, iterPos_of hit.out]
          omega
      have Hqs : Hid (∀ piece : List UInt8, (if r = 34 ∨ r = 92 then [92, UInt8.ofNat r] else if r < 32 ∨ r = 127 ∨ (one (l.drop pos)).2 = 0 then qhex x8 else Lib.encodeRune (r : Int)) = piece → (segsOf (l.drop pos)).flatMap qp = piece ++ (segsOf (l.drop (pos + k))).flatMap qp) := fun piece h => by rw [← h]; exact Hst.out.1
      have Hhl : Hid ((qhex x8).length ≤ 4) := by show _ ≤ _; exact Nat.le_refl 4
      clear htorn Htorn
      by_cases hA : r = 34 ∨ r = 92
      · have Hpc := Lib.hid (Hqs.out _ (if_pos hA))
        have Hb : Hid ([Value.int .u8 92, .int .u8 (r : Int)] = bvs [92, UInt8.ofNat r]) := by
          show _ = _
          simp [bvs, bv]
          omega
        have hr8 : (r : Int) ≤ 92 := by omega
        have Hlen : Hid (acc.length + 2 ≤ 140737488355327) := by show _ ≤ _; have := Hal.out; omega
        have ht : ((r : Int) == 34) = true ∨ (((r : Int) == 34) = false ∧ ((r : Int) == 92) = true) := by simp; omega
        clear hA
        rcases ht with ht | ⟨ht, ht2⟩
        all_goals
          go_wp2_with (at_builtin; go_must (refine app_bytes rfl (.tmp 23) (.tmp 26) rfl w.heap.size _ _ rfl (Own.alloc Hown2.out _) _ _ 2 2 [92, UInt8.ofNat r] rfl rfl (RB.new _ _ _ _ Hb.out) Hlen.out (Nat.le_trans Hsz2.out (by simp)) ?_); intro v3 w3 hown3 hbel3 hg3)
          have hit3 : w3.heap[w.heap.size + 1]? = some (.stringIter s (pos + k)) := iter_others (((Lib.OthersKept.refl _ _ _).alloc _).trans (others_grown (Own.alloc Hown2.out _) hg3)) Hit2.out
          exact Fin.out _ _ _ Hpc.out (by simp) hown3 hit3 ((Hbel2.out.alloc Hsz2.out _).trans hbel3)
      · have ht1 : ((r : Int) == 34) = false := by simp; omega
        have ht2 : ((r : Int) == 92) = false := by simp; omega
        by_cases hB : r < 32 ∨ r = 127
        · have Hpc := Lib.hid (Hqs.out (qhex x8) (by rw [if_neg hA, if_pos (by omega)]))
          have hd : decide ((r : Int) < 32) = true ∨ (decide ((r : Int) < 32) = false ∧ ((r : Int) == 127) = true) := by simp; omega
          clear hA hB
          rcases hd with hd | ⟨hd, hd2⟩
          all_goals
            go_wp2_with fail
            refine Hhex.out.mono ?_
            rintro e w3 ⟨v3, rfl, h1, h2, h3⟩
            have H1 := Lib.hid h1
            have H2 := Lib.hid (Hbel2.out.trans h2)
            have H3 := Lib.hid (iter_others h3 Hit2.out)
            clear h1 h2 h3
            go_wp2_with fail
            exact Fin.out _ _ _ Hpc.out Hhl.out H1.out H3.out H2.out
        · have hd : decide ((r : Int) < 32) = false := by simp; omega
          have hd2 : ((r : Int) == 127) = false := by simp; omega
          by_cases h0 : (one (l.drop pos)).2 = 0
          · have Hpc := Lib.hid (Hqs.out (qhex x8) (by rw [if_neg hA, if_pos (Or.inr (Or.inr h0))]))
            have hb0 : ((one (l.drop pos)).2 == 0) = true := by simp [h0]
            rw [hb0] at Ht
            clear hA hB h0 hb0 Hst Hqs
            go_wp2_with fail
            refine (Ht.out _).mono ?_
            rintro e w' ⟨rfl, rfl⟩
            go_wp2_with fail
            refine Hhex.out.mono ?_
            rintro e w3 ⟨v3, rfl, h1, h2, h3⟩
            have H1 := Lib.hid h1
            have H2 := Lib.hid (Hbel2.out.trans h2)
            have H3 := Lib.hid (iter_others h3 Hit2.out)
            clear h1 h2 h3
            go_wp2_with fail
            exact Fin.out _ _ _ Hpc.out Hhl.out H1.out H3.out H2.out
          · have Hpc := Lib.hid (Hqs.out (Lib.encodeRune (r : Int)) (by rw [if_neg hA, if_neg (by omega)]))
            have Hel := Lib.hid (encode_len r)
            have hb0 : ((one (l.drop pos)).2 == 0) = false := by simp [h0]
            have Hap := Lib.hid (appendRune_any _ w.heap.size acc r _ Hown2.out Hsz2.out Hal.out hrl (Hst.out.2 h0))
            rw [hb0] at Ht
            clear hA hB h0 hb0 Hst Hqs
            go_wp2_with fail
            refine (Ht.out _).mono ?_
            rintro e w' ⟨rfl, rfl⟩
            go_wp2_with fail
            refine Hap.out.mono ?_
            rintro e w3 ⟨v3, rfl, h1, h2, h3⟩
            have H1 := Lib.hid h1
            have H2 := Lib.hid (Hbel2.out.trans h2)
            have H3 := Lib.hid (iter_others h3 Hit2.out)
            clear h1 h2 h3
            go_wp2_with fail
            exact Fin.out _ _ _ Hpc.out Hel.out H1.out H3.out H2.out
    · have hnx : ∀ ty, (Instr.next (.pointer (some ⟨w.heap.size + 1, 0, none⟩)) true ty).run Tryd.prog wr = .ok (.tuple #[.bool false]) wr := fun ty => Lib.run_next_end_at wr (w.heap.size + 1) s pos ty hit.out hp
      obtain rfl : pos = s.size := by omega
      have Hfin : Hid (quoteL l = acc ++ [34]) := by
        show _ = _
        have := hq.out
        rw [← Hsl.out, List.drop_length, segsOf_nil, List.flatMap_nil, List.append_nil] at this
        rw [quoteL, ← this]
        rfl
      have Hsz : Hid (w.heap.size ≤ wr.heap.size) := hbel.out.size
      have Hb : Hid ([Value.int .u8 34] = bvs [(34 : UInt8)]) := rfl
      have Hlen : Hid (acc.length + 1 ≤ 140737488355327) := by show _ ≤ _; have := hacc.out; omega
      go_wp2_with (at_builtin; go_must (refine app_bytes rfl (.tmp 47) (.tmp 48) rfl w.heap.size _ _ rfl (Own.alloc hown.out _) _ _ 1 1 [(34 : UInt8)] rfl rfl (RB.new _ _ _ _ Hb.out) Hlen.out (Nat.le_trans Hsz.out (by simp)) ?_); intro v3 w3 hown3 hbel3 hg3; generalize acc ++ [(34 : UInt8)] = body at hown3 Hfin; obtain ⟨A, c, rfl, _, hrb, _⟩ := hown3.rb; have hcv := text_run w3 _ A _ c hrb; clear hrb)
      go_ret
      exact ⟨by rw [Hfin.out]; rfl, (hbel.out.alloc Hsz.out _).trans hbel3⟩
end Go.Proofs.YtncaaiaffioegaaDoor
