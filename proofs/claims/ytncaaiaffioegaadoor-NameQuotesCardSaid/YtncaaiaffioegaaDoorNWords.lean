/-
  A text's words, by the program.
-/
import Derived.Test.YtncaaiaffioegaaDoorNIndex
namespace Go.Proofs.YtncaaiaffioegaaDoor
open Go.RowKit

theorem qscan_step (b : Bool) (t : List UInt8) (pos : Nat) (h : pos < t.length) :
    (b = true → qscan b (t.drop pos) = (dec (t.drop pos)).2 + qscan false (t.drop (pos + (dec (t.drop pos)).2))) ∧
    (b = false → (dec (t.drop pos)).1 = 92 → qscan b (t.drop pos) = (dec (t.drop pos)).2 + qscan true (t.drop (pos + (dec (t.drop pos)).2))) ∧
    (b = false → (dec (t.drop pos)).1 = 34 → qscan b (t.drop pos) = 1) ∧
    (b = false → (dec (t.drop pos)).1 ≠ 92 → (dec (t.drop pos)).1 ≠ 34 → qscan b (t.drop pos) = (dec (t.drop pos)).2 + qscan false (t.drop (pos + (dec (t.drop pos)).2))) := by
  have hg := seg_good _ (drop_ne h)
  have hle := dec_le _ (drop_ne h)
  have hq := qscan_seg b (seg (t.drop pos)) hg ((t.drop pos).drop (dec (t.drop pos)).2)
  have hbs : (seg (t.drop pos)).bs = (t.drop pos).take (dec (t.drop pos)).2 := rfl
  have hv : (seg (t.drop pos)).v = (dec (t.drop pos)).1 := rfl
  have hlen : (seg (t.drop pos)).bs.length = (dec (t.drop pos)).2 := by rw [hbs, List.length_take]; omega
  rw [hlen, hv, hbs, List.take_append_drop, List.drop_drop] at hq
  have h92 : (dec (t.drop pos)).1 = 92 → (dec (t.drop pos)).2 = 1 := fun e => by
    have h1 : (seg (t.drop pos)).v = 92 := by rw [hv, e]
    rw [← hlen]
    generalize seg (t.drop pos) = sg at hg h1
    cases hg with
    | low x hx => rfl
    | high bs v h2 h4 hv hm hs hb he => dsimp only at h1; omega
    | torn x hx => dsimp only at h1; omega
  rw [hq]
  refine ⟨fun hb => by simp [hb], fun hb e => ?_, fun hb e => ?_, fun hb e1 e2 => ?_⟩
  · rw [if_neg (by simp [hb]), if_pos e, h92 e]
  · rw [if_neg (by simp [hb]), if_neg (by omega), if_pos e]
  · rw [if_neg (by simp [hb]), if_neg e1, if_neg e2]
theorem prefix_quote (l : List UInt8) : Lib.hasPrefix l [34] = true → qsize l = 1 + qscan false (l.drop 1) ∧ 1 ≤ l.length := by
  intro h
  unfold Lib.hasPrefix at h
  rw [List.isPrefixOf_iff_prefix] at h
  obtain ⟨r, rfl⟩ := h
  exact ⟨rfl, by simp⟩
theorem prefix_noquote (l : List UInt8) : Lib.hasPrefix l [34] = false → qsize l = 0 := by
  intro h
  cases l with
  | nil => rfl
  | cons x r =>
    simp only [qsize]
    rw [if_neg]
    intro hx
    have hx' : x = 34 := UInt8.toNat_inj.1 hx
    subst hx'
    simp [Lib.hasPrefix] at h

set_option maxRecDepth 20000 in
set_option maxHeartbeats 1000000 in
theorem qsize_any (s : ByteArray) (w : World) (hs : s.size ≤ 1099511627776) :
    Calls Tryd.prog 29 #[.string s] w fun e w' => e = .returned (.int .i64 (qsize s.data.toList : Nat)) ∧ Below w.heap.size w w' := by
  have hpre := fun W => prefix_any s ⟨#[34]⟩ W hs (by show 1 ≤ _; omega)
  have Hsl : Hid (s.data.toList.length = s.size) := by show _ = _; rfl
  have hs' : (s.size : Int) ≤ 1099511627776 := by omega
  have Hy := Lib.hid (prefix_quote s.data.toList)
  have Hn := Lib.hid (prefix_noquote s.data.toList)
  have Hpre : Hid (∀ W, Calls Tryd.prog 27 #[.string s, .string ⟨#[34]⟩] W fun e w' => e = .returned (.bool (Lib.hasPrefix s.data.toList [34])) ∧ W = w') := hpre
  clear hpre
  cases hc : Lib.hasPrefix s.data.toList [34] with
  | false =>
    have Hres := Lib.hid (Hn.out hc)
    rw [hc] at Hpre
    clear hc
    go_enter Tryd.func29, Tryd.ntmps29
    go_wp2_with fail
    refine (Hpre.out _).mono ?_
    rintro e w' ⟨rfl, rfl⟩
    go_wp2_with fail
    go_ret
    exact ⟨by rw [Hres.out]; rfl, Below.refl _ _⟩
  | true =>
    obtain ⟨h1, h2⟩ := Hy.out hc
    rw [hc] at Hpre
    have Hres := Lib.hid h1
    rw [Hsl.out] at h2
    clear hc h1
    have h2' : (1 : Int) ≤ (s.size : Int) := by omega
    obtain ⟨t, ht⟩ : ∃ t, t = s.data.toList.drop 1 := ⟨_, rfl⟩
    have Htl : Hid (t.length + 1 = s.size) := by show _ = _; rw [ht, List.length_drop, Hsl.out]; omega
    have Hx : Hid ((s.extract 1 s.size).data.toList = t) := by show _ = _; rw [extract_tail, ht]
    have Hxs : Hid ((s.extract 1 s.size).size + 1 = s.size) := by show _ = _; rw [extract_size]; omega
    rw [← ht] at Hres
    clear ht
    go_enter Tryd.func29, Tryd.ntmps29
    go_wp2_with fail
    refine (Hpre.out _).mono ?_
    rintro e w' ⟨rfl, rfl⟩
    go_wp2_with fail
    generalize s.extract 1 s.size = u at Hx Hxs ⊢
    go_loopw [3] (fun d wr => ∃ (pos : Nat) (b : Bool), pos ≤ u.size ∧ d = .bool b ∧ Hid (wr.heap[w.heap.size]? = some (.stringIter u pos)) ∧ Hid (Below w.heap.size w wr) ∧ Hid (qscan false t = pos + qscan b (t.drop pos))) (fun _ wr => u.size - wr.iterPos w.heap.size)
    case atStart => exact ⟨0, false, Nat.zero_le _, rfl, World.iter_heap w u 0, (Below.refl _ w).alloc (Nat.le_refl _) _, by show _ = _; simp⟩
    case round =>
      obtain ⟨pos, b, hpos, rfl, hit, hbel, hq⟩ := hrel
      by_cases hp : pos < u.size
      · have hpl : pos < t.length := by have := Htl.out; have := Hxs.out; omega
        have hnx := fun ty => next_at hit.out hp ty
        rw [Hx.out] at hnx
        have hdl := dec_le _ (drop_ne hpl)
        rw [List.length_drop] at hdl
        have hdl2 : pos + (dec (t.drop pos)).2 ≤ u.size := by have := Htl.out; have := Hxs.out; omega
        have hdp := dec_pos (t.drop pos)
        have Hst := Lib.hid (qscan_step b t pos hpl)
        generalize dec (t.drop pos) = d at hnx hdl2 hdp Hst hdl
        obtain ⟨r, k⟩ := d
        dsimp only at hnx hdl2 hdp Hst hdl
        clear hdl
        have Hit2 := Lib.hid (Lib.iterAt_heap wr w.heap.size u pos (pos + k) hit.out)
        have Hbel2 : Hid (Below w.heap.size w (wr.iterAt w.heap.size u (pos + k))) := Lib.below_iterAt hbel.out (Nat.le_refl _) u (pos + k)
        have hub : (pos : Int) ≤ 1099511627776 := by have := Hxs.out; omega
        have Fin : Hid (∀ b2 : Bool, qscan b (t.drop pos) = k + qscan b2 (t.drop (pos + k)) → Hid (qscan false t = (pos + k) + qscan b2 (t.drop (pos + k)))) := fun b2 h => by show _ = _; rw [hq.out, h]; omega
        cases b with
        | true =>
          have Hq2 := Fin.out false (Hst.out.1 rfl)
          clear Hst Fin
          go_wp2_with fail
          go_roundw
          case rel => exact ⟨pos + k, false, hdl2, rfl, Hit2.out, Hbel2.out, Hq2.out⟩
          case measure => rw [iterPos_of Hit2.out, iterPos_of hit.out]; omega
        | false =>
          by_cases h92 : r = 92
          · have Hq2 := Fin.out true (Hst.out.2.1 rfl h92)
            have hb : ((r : Int) == 92) = true := by simp; omega
            clear Hst Fin h92
            go_wp2_with fail
            go_roundw
            case rel => exact ⟨pos + k, true, hdl2, rfl, Hit2.out, Hbel2.out, Hq2.out⟩
            case measure => rw [iterPos_of Hit2.out, iterPos_of hit.out]; omega
          · have hb : ((r : Int) == 92) = false := by simp; omega
            by_cases h34 : r = 34
            · have Hq2 : Hid (qsize s.data.toList = pos + 2) := by
                show _ = _
                rw [Hres.out, hq.out, Hst.out.2.2.1 rfl h34]
                omega
              have hb2 : ((r : Int) == 34) = true := by simp; omega
              clear Hst Fin h34 h92
              go_wp2_with fail
              go_ret
              exact ⟨by rw [Hq2.out]; rfl, Hbel2.out⟩
            · have hb2 : ((r : Int) == 34) = false := by simp; omega
              have Hq2 := Fin.out false (Hst.out.2.2.2 rfl h92 h34)
              clear Hst Fin h34 h92
              go_wp2_with fail
              go_roundw
              case rel => exact ⟨pos + k, false, hdl2, rfl, Hit2.out, Hbel2.out, Hq2.out⟩
              case measure => rw [iterPos_of Hit2.out, iterPos_of hit.out]; omega
      · have hnx : ∀ ty, (Instr.next (.pointer (some ⟨w.heap.size, 0, none⟩)) true ty).run Tryd.prog wr = .ok (.tuple #[.bool false]) wr := fun ty => Lib.run_next_end_at wr w.heap.size u pos ty hit.out hp
        have Hq2 : Hid (qsize s.data.toList = s.size) := by
          show _ = _
          have e : pos = t.length := by have := Htl.out; have := Hxs.out; omega
          have e2 : qscan b [] = 0 := by cases b <;> rfl
          have e3 := Htl.out
          rw [Hres.out, hq.out, e, List.drop_length, e2]
          omega
        go_wp2_with fail
        go_ret
        exact ⟨by rw [Hq2.out]; rfl, hbel.out⟩

theorem wsize_idx (l : List UInt8) : (idxB (l.drop (qsize l)) < 0 → wsize l = l.length) ∧ (0 ≤ idxB (l.drop (qsize l)) → (wsize l : Int) = qsize l + idxB (l.drop (qsize l)) ∧ idxB (l.drop (qsize l)) ≤ l.length) := by
  have hq := qsize_le l
  unfold wsize idxB
  constructor
  · intro h
    split at h
    · rename_i ha
      have : (l.drop (qsize l)).takeWhile (fun x => !blankB x) = l.drop (qsize l) := by
        rw [List.all_eq_true] at ha
        have := List.takeWhile_append_of_pos (p := fun x => !blankB x) (l₁ := l.drop (qsize l)) (l₂ := []) ha
        simpa using this
      rw [this, List.length_drop]
      omega
    · omega
  · intro h
    split at h
    · omega
    · rename_i ha
      rw [if_neg ha]
      refine ⟨by omega, ?_⟩
      have := (List.takeWhile_sublist (l := l.drop (qsize l)) fun x => !blankB x).length_le
      rw [List.length_drop] at this
      omega

set_option maxRecDepth 20000 in
set_option maxHeartbeats 400000 in
theorem wsize_any (s : ByteArray) (w : World) (hs : s.size ≤ 1099511627776) :
    Calls Tryd.prog 21 #[.string s] w fun e w' => e = .returned (.int .i64 (wsize s.data.toList : Nat)) ∧ Below w.heap.size w w' := by
  have hq := qsize_le s.data.toList
  have Hw := Lib.hid (wsize_idx s.data.toList)
  have hqa := qsize_any s w hs
  have Hsl : Hid (s.data.toList.length = s.size) := by show _ = _; rfl
  rw [Hsl.out] at hq Hw
  generalize hn : qsize s.data.toList = n at hq Hw hqa
  have Hix : Hid (∀ W, Calls Tryd.prog 30 #[.string (s.extract n s.size), .func (.func 31) #[] #[]] W fun e w' => e = .returned (.int .i64 (idxB (s.data.toList.drop n))) ∧ Below W.heap.size W w') := fun W => by
    have := index_any (s.extract n s.size) W (by rw [extract_size]; omega)
    rw [extract_tail] at this
    exact this
  generalize idxB (s.data.toList.drop n) = i at Hw Hix
  have hq' : (n : Int) ≤ (s.size : Int) := by omega
  have hs' : (s.size : Int) ≤ 1099511627776 := by omega
  have Hqa := Lib.hid hqa
  clear hqa hn
  by_cases hi : i < 0
  · have Hres := Lib.hid (Hw.out.1 hi)
    clear Hw
    go_enter Tryd.func21, Tryd.ntmps21
    go_wp2_with fail
    refine Hqa.out.mono ?_
    rintro e w1 ⟨rfl, hb1⟩
    have Hb1 := Lib.hid hb1
    clear hb1
    go_wp2_with fail
    refine (Hix.out w1).mono ?_
    rintro e w2 ⟨rfl, hb2⟩
    have Hb2 := Lib.hid (Hb1.out.trans (hb2.mono Hb1.out.size))
    clear hb2
    go_wp2_with fail
    go_ret
    exact ⟨by rw [Hres.out]; rfl, Hb2.out⟩
  · obtain ⟨h1, h2⟩ := Hw.out.2 (by omega)
    have Hres := Lib.hid h1
    have hi' : 0 ≤ i := by omega
    clear Hw h1 hi
    go_enter Tryd.func21, Tryd.ntmps21
    go_wp2_with fail
    refine Hqa.out.mono ?_
    rintro e w1 ⟨rfl, hb1⟩
    have Hb1 := Lib.hid hb1
    clear hb1
    go_wp2_with fail
    refine (Hix.out w1).mono ?_
    rintro e w2 ⟨rfl, hb2⟩
    have Hb2 := Lib.hid (Hb1.out.trans (hb2.mono Hb1.out.size))
    clear hb2
    go_wp2_with fail
    go_ret
    exact ⟨by rw [Hres.out]; rfl, Hb2.out⟩

/-! ### Words -/
def texts (ls : List (List UInt8)) : List Value := ls.map fun l => Value.string ⟨l.toArray⟩
theorem infoS : (Tryd.prog.info? 9).map (fun i => (i.zero, i.size, i.bytes)) = some (some (.string ⟨#[]⟩), 1, 16) := by kernel_rfl
/-- a text's bytes, how many -/
def strSize (v : Value) : Nat := match v with | .string s => s.size | _ => 0
theorem wordsL_count (n : Nat) : ∀ l : List UInt8, l.length ≤ n → (wordsL l).length ≤ l.length := by
  induction n with
  | zero =>
    intro l h
    have : l = [] := List.eq_nil_of_length_eq_zero (by omega)
    rw [this, wordsL_nil]
    exact Nat.le_refl _
  | succ n ih =>
    intro l h
    by_cases hl : l = []
    · rw [hl, wordsL_nil]; exact Nat.le_refl _
    · have hp : 0 < l.length := List.length_pos_iff.2 hl
      by_cases hw : wsize l = 0
      · rw [wordsL_blank l hl hw]
        have := ih (l.drop 1) (by rw [List.length_drop]; omega)
        rw [List.length_drop] at this
        omega
      · rw [wordsL_word l hw, List.length_cons]
        have := ih (l.drop (wsize l)) (by rw [List.length_drop]; omega)
        rw [List.length_drop] at this
        have := wsize_le l
        omega

set_option maxRecDepth 20000 in
set_option maxHeartbeats 1000000 in
theorem words_any (s : ByteArray) (w : World) (hs : s.size ≤ 4294967296) :
    Calls Tryd.prog 11 #[.string s] w fun e w' => ∃ v, e = .returned v ∧ OwnV w' w.heap.size 9 v (texts (wordsL s.data.toList)) ∧ Below w.heap.size w w' := by
  obtain ⟨W, hW⟩ : ∃ W, W = wordsL s.data.toList := ⟨_, rfl⟩
  have HW := Lib.hid hW
  rw [← hW]
  clear hW
  go_enter Tryd.func11, Tryd.ntmps11
  go_wp2_with fail
  go_loopw [0, 3, 4] (fun d v n wr => ∃ (u : ByteArray) (acc : List (List UInt8)), d = .string u ∧ u.size ≤ s.size ∧ Hid (acc.length + u.size ≤ s.size) ∧ Hid (OwnV wr w.heap.size 9 v (texts acc)) ∧ Hid (Below w.heap.size w wr) ∧ Hid (W = acc ++ wordsL u.data.toList)) (fun d _ _ _ => strSize d)
  case atStart => exact ⟨s, [], rfl, Nat.le_refl _, by show _ ≤ _; simp, OwnV.nil _ _ _, Below.refl _ _, HW.out⟩
  case round =>
    obtain ⟨u, acc, rfl, hu, hacc, hown, hbel, hres⟩ := hrel
    have Hsl : Hid (u.data.toList.length = u.size) := by show _ = _; rfl
    have hus : (u.size : Int) ≤ 4294967296 := by omega
    have Hsz : Hid (w.heap.size ≤ wr.heap.size) := hbel.out.size
    by_cases h0 : 0 < u.size
    · have Hws := Lib.hid (wsize_any u wr (by omega))
      have hwl := wsize_le u.data.toList
      rw [Hsl.out] at hwl
      have hne : u.data.toList ≠ [] := by intro e; rw [e] at Hsl; have := Hsl.out; simp at this; omega
      have Hbl := Lib.hid (wordsL_blank u.data.toList hne)
      have Hwd := Lib.hid (wordsL_word u.data.toList)
      have h0' : (0 : Int) < (u.size : Int) := by omega
      generalize wsize u.data.toList = n at Hws hwl Hbl Hwd
      have hwl' : (n : Int) ≤ (u.size : Int) := by omega
      clear hne
      by_cases hn : n = 0
      · subst hn
        have Hres2 : Hid (W = acc ++ wordsL (u.extract 1 u.size).data.toList) := by show _ = _; rw [extract_tail, ← Hbl.out rfl]; exact hres.out
        have hsz := extract_size u 1
        have Hsz1 := Lib.hid hsz
        have h1 : (1 : Int) ≤ (u.size : Int) := by omega
        clear hsz Hbl Hwd
        go_wp2_with fail
        refine Hws.out.mono ?_
        rintro e w1 ⟨rfl, hb1⟩
        have Hown1 := Lib.hid (hown.out.below hb1)
        have Hb1 : Hid (Below w.heap.size w w1) := hbel.out.trans (hb1.mono hbel.out.size)
        clear hb1
        go_wp2_with fail
        exact ⟨⟨_, acc, rfl, by rw [Hsz1.out]; omega, by show _ ≤ _; rw [Hsz1.out]; have := hacc.out; omega, Hown1.out, Hb1.out, Hres2.out⟩, by simp only [strSize]; rw [Hsz1.out]; omega⟩
      · have Hres2 : Hid (W = (acc ++ [u.data.toList.take n]) ++ wordsL (u.extract n u.size).data.toList) := by
          show _ = _
          rw [extract_tail, hres.out, Hwd.out hn, List.append_assoc]
          rfl
        have hsz := extract_size u n
        have Hsz1 := Lib.hid hsz
        have hn0 : 0 < n := by omega
        have hn0' : (0 : Int) < (n : Int) := by omega
        have Hcl := Lib.hid (fun W => clone_s (u.extract 0 n) W (by rw [Lib.size_eq, Lib.extract_data, List.length_take, List.length_drop]; omega))
        have Hex : Hid (Value.string (u.extract 0 n) = .string ⟨(u.data.toList.take n).toArray⟩) := by show _ = _; rw [Lib.extract_eq]; rfl
        have Htx : Hid (texts acc ++ [Value.string (u.extract 0 n)] = texts (acc ++ [u.data.toList.take n])) := by show _ = _; rw [Hex.out]; simp [texts]
        have Hal : Hid ((texts acc).length + 1 ≤ 8589934592) := by show _ ≤ _; rw [texts, List.length_map]; have := hacc.out; omega
        have hmax : max (n : Int) 1 = (n : Int) := by omega
        clear hsz Hbl Hwd hn
        go_wp2_with fail
        refine Hws.out.mono ?_
        rintro e w1 ⟨rfl, hb1⟩
        have Hown1 := Lib.hid (hown.out.below hb1)
        have Hb1 : Hid (Below w.heap.size w w1) := hbel.out.trans (hb1.mono hbel.out.size)
        clear hb1
        go_wp2_with fail
        refine (Hcl.out w1).mono ?_
        rintro e w2 ⟨rfl, hb2⟩
        have Hown2 := Lib.hid (Hown1.out.below hb2)
        have Hb2 : Hid (Below w.heap.size w w2) := Hb1.out.trans (hb2.mono Hb1.out.size)
        have Hs2 : Hid (w.heap.size ≤ w2.heap.size) := Hb2.out.size
        clear hb2
        go_wp2_with (at_builtin; go_must (refine app_one rfl (.tmp 12) (.tmp 17) 31 9 rfl Tryd.underlying31 _ 16 infoS rfl w.heap.size _ _ rfl (OwnV.alloc Hown2.out _) ⟨w2.heap.size, 0, none⟩ 1 (.string (u.extract 0 n)) rfl (cell_new _ _ _) rfl (by have := Hal.out; omega) (by have := Hal.out; omega) (Nat.le_trans Hs2.out (by simp)) ?_); intro v3 w3 hown3 hbel3 _; rw [Htx.out] at hown3)
        exact ⟨⟨_, acc ++ [u.data.toList.take n], rfl, by rw [Hsz1.out]; omega, by show _ ≤ _; rw [Hsz1.out, List.length_append, List.length_singleton]; have := hacc.out; omega, hown3, (Hb2.out.alloc Hs2.out _).trans hbel3, Hres2.out⟩, by simp only [strSize]; rw [Hsz1.out]; omega⟩
    · have h00 : u.size = 0 := by omega
      have Hfin : Hid (W = acc) := by
        show _ = _
        have : u.data.toList = [] := List.eq_nil_of_length_eq_zero (by rw [Hsl.out]; exact h00)
        rw [hres.out, this, wordsL_nil, List.append_nil]
      go_wp2_with fail
      go_ret
      exact ⟨_, rfl, by rw [Hfin.out]; exact hown.out, hbel.out⟩
end Go.Proofs.YtncaaiaffioegaaDoor
