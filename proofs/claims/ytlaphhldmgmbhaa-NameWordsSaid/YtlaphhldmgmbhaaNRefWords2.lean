/-
  The second saying's words.
-/
import Derived.Test.YtlaphhldmgmbhaaNRefWords
namespace Go.Proofs.Ytlaphhldmgmbhaa
open Go.RowKit

/-- the scan of a quoted part, byte by byte -/
theorem qscan_at (l : List UInt8) (i : Nat) (h : i < l.length) :
    (l[i].toNat = 92 → i + 1 < l.length → qscan false (l.drop i) = 2 + qscan false (l.drop (i + 2))) ∧
    (l[i].toNat = 92 → ¬ i + 1 < l.length → qscan false (l.drop i) = 1) ∧
    (l[i].toNat = 34 → qscan false (l.drop i) = 1) ∧
    (l[i].toNat ≠ 92 → l[i].toNat ≠ 34 → qscan false (l.drop i) = 1 + qscan false (l.drop (i + 1))) := by
  have hcons : l.drop i = l[i] :: l.drop (i + 1) := List.drop_eq_getElem_cons h
  rw [hcons]
  generalize l[i] = x
  refine ⟨fun e h2 => ?_, fun e h2 => ?_, fun e => ?_, fun e1 e2 => ?_⟩
  · have hcons2 : l.drop (i + 1) = l[i + 1] :: l.drop (i + 2) := List.drop_eq_getElem_cons h2
    rw [hcons2]
    simp only [qscan]
    rw [if_pos e]
    omega
  · have : l.drop (i + 1) = [] := List.drop_eq_nil_of_le (by omega)
    rw [this]
    simp only [qscan]
    rw [if_pos e]
  · simp only [qscan]
    rw [if_neg (by omega), if_pos e]
  · simp only [qscan]
    rw [if_neg e1, if_neg e2]
theorem qscan_end (l : List UInt8) (i : Nat) (h : ¬ i < l.length) : qscan false (l.drop i) = 0 := by
  rw [List.drop_eq_nil_of_le (by omega)]
  rfl
/-- where a word ends -/
theorem wsize_at (l : List UInt8) (a j e : Nat) (hj : j = a + qsize (l.drop a)) (he : j ≤ e) (hel : e ≤ l.length) (hno : ∀ x ∈ (l.drop j).take (e - j), blankB x = false) (hend : e = l.length ∨ ∃ h : e < l.length, blankB l[e] = true) : e = a + wsize (l.drop a) := by
  have hd : (l.drop a).drop (qsize (l.drop a)) = l.drop j := by rw [List.drop_drop, hj]
  unfold wsize
  rw [hd]
  have hs : l.drop j = (l.drop j).take (e - j) ++ l.drop e := by
    have : l.drop e = (l.drop j).drop (e - j) := by rw [List.drop_drop, show j + (e - j) = e by omega]
    rw [this, List.take_append_drop]
  have ht : (l.drop j).takeWhile (fun x => !blankB x) = (l.drop j).take (e - j) := by
    conv => lhs; rw [hs]
    rw [List.takeWhile_append_of_pos (by intro x hx; simp [hno x hx])]
    rcases hend with h | ⟨h, hb⟩
    · rw [h, List.drop_length]; simp
    · rw [List.drop_eq_getElem_cons h, List.takeWhile_cons]
      simp [hb]
  rw [ht, List.length_take, List.length_drop]
  omega
/-- a byte at the front: blank, quotation mark, another one -/
theorem front_blank (l : List UInt8) (i : Nat) (h : i < l.length) (hb : blankB l[i] = true) : wordsL (l.drop i) = wordsL (l.drop (i + 1)) := by
  rw [List.drop_eq_getElem_cons h]
  exact words_skip _ _ hb
theorem front_word (l : List UInt8) (i : Nat) (h : i < l.length) (hb : blankB l[i] = false) : 0 < wsize (l.drop i) := by
  rw [List.drop_eq_getElem_cons h]
  by_cases hq : l[i].toNat = 34
  · unfold wsize
    simp only [qsize]
    rw [if_pos hq]
    omega
  · unfold wsize
    simp only [qsize]
    rw [if_neg hq, List.drop_zero, List.takeWhile_cons]
    simp [hb]
theorem qsize_q (l : List UInt8) (i : Nat) (h : i < l.length) (hq : l[i].toNat = 34) : qsize (l.drop i) = 1 + qscan false (l.drop (i + 1)) := by
  rw [List.drop_eq_getElem_cons h]
  simp only [qsize]
  rw [if_pos hq]
theorem qsize_n (l : List UInt8) (i : Nat) (h : i < l.length) (hq : l[i].toNat ≠ 34) : qsize (l.drop i) = 0 := by
  rw [List.drop_eq_getElem_cons h]
  simp only [qsize]
  rw [if_neg hq]

set_option maxRecDepth 20000 in
set_option maxHeartbeats 4000000 in
theorem refWords_any (s : ByteArray) (w : World) (hs : s.size ≤ 4294967296) :
    Calls Try.prog 16 #[.string s] w fun e w' => ∃ v, e = .returned v ∧ OwnV w' w.heap.size 9 v (texts (wordsL s.data.toList)) ∧ Below w.heap.size w w' := by
  obtain ⟨l, hl⟩ : ∃ l, l = s.data.toList := ⟨_, rfl⟩
  have Hl := Lib.hid hl
  have Hsl : Hid (l.length = s.size) := by show _ = _; rw [hl]; rfl
  rw [← hl]
  clear hl
  obtain ⟨W, hW⟩ : ∃ W, W = wordsL l := ⟨_, rfl⟩
  have HW := Lib.hid hW
  rw [← hW]
  clear hW
  have hs' : (s.size : Int) ≤ 4294967296 := by omega
  have Hix : Hid (∀ (i : Nat) (h : i < s.size) (W : World), (Instr.index 9 (.string s) (.int .i64 (i : Int))).run Try.prog W = .ok (.int .u8 ((l[i]'(by rw [Hsl.out]; exact h)).toNat : Int)) W) := fun i h W => by
    have := index_at s i h W
    rw [← Hl.out, List.getD_eq_getElem?_getD, List.getElem?_eq_getElem (by rw [Hsl.out]; exact h)] at this
    exact this
  go_enter Try.func16, Try.ntmps16
  go_wp2_with fail
  go_loopw [3, 4] (fun v i wr => ∃ (k : Nat) (acc : List (List UInt8)), k ≤ s.size ∧ i = .int .i64 (k : Int) ∧ Hid (acc.length ≤ k) ∧ Hid (OwnV wr w.heap.size 9 v (texts acc)) ∧ Hid (Below w.heap.size w wr) ∧ Hid (W = acc ++ wordsL (l.drop k))) (fun _ i _ => (s.size - intOf i).toNat)
  case atStart => exact ⟨0, [], Nat.zero_le _, rfl, Nat.le_refl _, OwnV.nil _ _ _, Below.refl _ _, HW.out⟩
  case round =>
    obtain ⟨k, acc, hk, rfl, hacc, hown, hbel, hres⟩ := hrel
    obtain ⟨wo, rfl⟩ : ∃ wo : World, wo = wr := ⟨_, rfl⟩
    by_cases hp : k < s.size
    · have hpl : k < l.length := by rw [Hsl.out]; exact hp
      have hik := Hix.out k hp
      have Hfb := Lib.hid (front_blank l k hpl)
      have Hfw := Lib.hid (front_word l k hpl)
      have Hqq := Lib.hid (qsize_q l k hpl)
      have Hqn := Lib.hid (qsize_n l k hpl)
      have hp' : (k : Int) < (s.size : Int) := by omega
      generalize l[k] = x at hik Hfb Hfw Hqq Hqn
      have Hbl := Lib.hid (refBlank_any x)
      cases hb : blankB x with
      | true =>
        have Hres2 : Hid (W = acc ++ wordsL (l.drop (k + 1))) := by show _ = _; rw [hres.out, Hfb.out hb]
        rw [hb] at Hbl
        clear hb Hfb Hfw Hqq Hqn
        go_wp2_with (go_at_call 31; refine (Hbl.out _).mono ?_; rintro e w' ⟨rfl, rfl⟩)
        exact ⟨⟨k + 1, acc, by omega, by go_num, by show _ ≤ _; have := hacc.out; omega, hown.out, hbel.out, Hres2.out⟩, by simp [intOf]; omega⟩
      | false =>
        have Hws := Lib.hid (Hfw.out hb)
        rw [hb] at Hbl
        clear hb Hfb Hfw
        generalize hx : x.toNat = xn at hik Hqq Hqn Hbl
        go_upto_if 20 with (go_at_call 31; refine (Hbl.out _).mono ?_; rintro e w' ⟨rfl, rfl⟩)
        go_cut [4] (fun i wx => wx = wo ∧ ∃ m : Nat, i = .int .i64 (m : Int) ∧ m ≤ s.size + 2 ∧ Hid (min m s.size = k + qsize (l.drop k)))
        case first =>
          by_cases h34 : xn = 34
          · have hb34 : ((xn : Int) == 34) = true := by simp; omega
            have Hq1 := Lib.hid (Hqq.out h34)
            clear h34 Hqq Hqn
            go_wp2_with fail
            go_loop [4] (fun i => ∃ j : Nat, i = .int .i64 (j : Int) ∧ k + 1 ≤ j ∧ j ≤ s.size + 1 ∧ Hid ((j ≤ s.size → qscan false (l.drop (k + 1)) = (j - (k + 1)) + qscan false (l.drop j)) ∧ (j = s.size + 1 → qscan false (l.drop (k + 1)) = s.size - (k + 1)))) (fun i => (s.size + 2 - intOf i).toNat)
            case atStart => exact ⟨k + 1, by go_num, by omega, by omega, fun _ => by omega, fun h => by omega⟩
            case round =>
              obtain ⟨j, rfl, hj1, hj2, hrel⟩ := hrel
              by_cases hjs : j < s.size
              · have hjl : j < l.length := by rw [Hsl.out]; exact hjs
                have hij := Hix.out j hjs
                obtain ⟨q1, q2, q3, q4⟩ := qscan_at l j hjl
                have hjs' : (j : Int) < (s.size : Int) := by omega
                rw [Hsl.out] at q1 q2
                generalize l[j].toNat = y at hij q1 q2 q3 q4
                by_cases hy34 : y = 34
                · have Hm : Hid (min (j + 1) s.size = k + qsize (l.drop k)) := by
                    show _ = _
                    have := hrel.out.1 (by omega)
                    rw [Hq1.out, this, q3 hy34]
                    omega
                  have hby : ((y : Int) == 34) = true := by simp; omega
                  have hby' : ((y : Int) != 34) = false := by simp; omega
                  clear q1 q2 q3 q4 hy34
                  go_wp2_with fail
                  go_meet
                  exact ⟨rfl, j + 1, by go_num, by omega, Hm.out⟩
                · have hby : ((y : Int) == 34) = false := by simp; omega
                  have hby' : ((y : Int) != 34) = true := by simp; omega
                  by_cases hy92 : y = 92
                  · have Hn : Hid ((j + 2 ≤ s.size → qscan false (l.drop (k + 1)) = (j + 2 - (k + 1)) + qscan false (l.drop (j + 2))) ∧ (j + 2 = s.size + 1 → qscan false (l.drop (k + 1)) = s.size - (k + 1))) := by
                      have h0 := hrel.out.1 (by omega)
                      refine ⟨fun h => ?_, fun h => ?_⟩
                      · rw [h0, q1 hy92 (by omega)]; omega
                      · rw [h0, q2 hy92 (by omega)]; omega
                    have hb2 : ((y : Int) == 92) = true := by simp; omega
                    clear q1 q2 q3 q4 hy34 hy92
                    go_wp2_with fail
                    go_round
                    case rel => exact ⟨j + 2, by go_num, by omega, by omega, Hn.out⟩
                    case measure => simp [intOf]; omega
                  · have Hn : Hid ((j + 1 ≤ s.size → qscan false (l.drop (k + 1)) = (j + 1 - (k + 1)) + qscan false (l.drop (j + 1))) ∧ (j + 1 = s.size + 1 → qscan false (l.drop (k + 1)) = s.size - (k + 1))) := by
                      have h0 := hrel.out.1 (by omega)
                      refine ⟨fun h => ?_, fun h => by omega⟩
                      rw [h0, q4 hy92 hy34]; omega
                    have hb2 : ((y : Int) == 92) = false := by simp; omega
                    clear q1 q2 q3 q4 hy34 hy92
                    go_wp2_with fail
                    go_round
                    case rel => exact ⟨j + 1, by go_num, by omega, by omega, Hn.out⟩
                    case measure => simp [intOf]; omega
              · have Hm : Hid (min (j + 1) s.size = k + qsize (l.drop k)) := by
                  show _ = _
                  have he := qscan_end l j (by rw [Hsl.out]; exact hjs)
                  rw [Hq1.out]
                  by_cases hjj : j = s.size
                  · rw [hrel.out.1 (by omega), he]; omega
                  · rw [hrel.out.2 (by omega)]; omega
                have hjs' : (s.size : Int) ≤ (j : Int) := by omega
                go_wp2_with fail
                go_meet
                exact ⟨rfl, j + 1, by go_num, by omega, Hm.out⟩
          · have hb34 : ((xn : Int) == 34) = false := by simp; omega
            have Hm : Hid (min k s.size = k + qsize (l.drop k)) := by
              show _ = _
              rw [Hqn.out h34]; omega
            clear h34 Hqq Hqn
            go_wp2_with fail
            go_meet
            exact ⟨rfl, k, rfl, by omega, Hm.out⟩
        case rest =>
          obtain ⟨rfl, m, rfl, hm, Hmin⟩ := hcut
          clear Hqq Hqn Hbl hik
          by_cases hms : m ≤ s.size
          · have Hj : Hid (m = k + qsize (l.drop k)) := by show _ = _; rw [← Hmin.out]; omega
            go_wp2_with fail
            go_loop [4] (fun i => ∃ e : Nat, i = .int .i64 (e : Int) ∧ m ≤ e ∧ e ≤ s.size ∧ Hid (∀ x ∈ (l.drop m).take (e - m), blankB x = false)) (fun i => (s.size - intOf i).toNat)
            case atStart => exact ⟨m, rfl, Nat.le_refl _, hms, fun x hx => by simp at hx⟩
            case round =>
              obtain ⟨e, rfl, he1, he2, hno⟩ := hrel
              by_cases hes : e < s.size
              · have hel : e < l.length := by rw [Hsl.out]; exact hes
                have hie := Hix.out e hes
                have hes0 : (e : Int) < (s.size : Int) := by omega
                have Hble := Lib.hid (refBlank_any l[e])
                cases hb : blankB l[e] with
                | true =>
                  have Hwl : Hid (e = k + wsize (l.drop k)) := wsize_at l k m e Hj.out he1 (by rw [Hsl.out]; exact he2) hno.out (Or.inr ⟨hel, hb⟩)
                  rw [hb] at Hble
                  generalize l[e].toNat = y at hie Hble
                  clear hb
                  go_upto_region 16 with (go_at_call 31; refine (Hble.out _).mono ?_; rintro e' w' ⟨rfl, rfl⟩)
                  have hke : k < e := by have := Hwl.out; have := Hws.out; omega
                  have hke' : (k : Int) ≤ (e : Int) := by omega
                  have hes : (e : Int) ≤ (s.size : Int) := by omega
                  have hk0 : (0 : Int) ≤ (k : Int) := by omega
                  have Hres2 : Hid (W = (acc ++ [(l.drop k).take (wsize (l.drop k))]) ++ wordsL (l.drop e)) := by
                    show _ = _
                    rw [hres.out, wordsL_word _ (by have := Hws.out; omega), List.drop_drop, ← Hwl.out, List.append_assoc]
                    rfl
                  have Htx : Hid (texts acc ++ [Value.string (s.extract k e)] = texts (acc ++ [(l.drop k).take (wsize (l.drop k))])) := by
                    show _ = _
                    rw [Lib.extract_eq, ← Hl.out, show e - k = wsize (l.drop k) by have := Hwl.out; omega]
                    simp [texts]
                  have Hal : Hid ((texts acc).length + 1 ≤ 8589934592) := by show _ ≤ _; rw [texts, List.length_map]; have := hacc.out; omega
                  have Hs2 : Hid (w.heap.size ≤ wc.heap.size) := hbel.out.size
                  go_wp2_with (at_builtin; go_must (refine app_one rfl (.tmp 62) (.tmp 67) 36 9 rfl Try.underlying36 _ 16 infoS rfl w.heap.size _ _ rfl (OwnV.alloc hown.out _) ⟨wc.heap.size, 0, none⟩ 1 (.string (s.extract k e)) rfl (cell_new _ _ _) rfl (by have := Hal.out; omega) (by have := Hal.out; omega) (Nat.le_trans Hs2.out (by simp)) ?_); intro v3 w3 hown3 hbel3 _; rw [Htx.out] at hown3)
                  exact ⟨⟨e, acc ++ [(l.drop k).take (wsize (l.drop k))], by omega, rfl, by show _ ≤ _; rw [List.length_append, List.length_singleton]; have := hacc.out; omega, hown3, (hbel.out.alloc Hs2.out _).trans hbel3, Hres2.out⟩, by simp [intOf]; omega⟩
                | false =>
                  have Hno2 : Hid (∀ x ∈ (l.drop m).take (e + 1 - m), blankB x = false) := by
                    intro x hx
                    have hsp : (l.drop m).take (e + 1 - m) = (l.drop m).take (e - m) ++ [l[e]] := by
                      rw [show e + 1 - m = (e - m) + 1 by omega, List.take_succ_eq_append_getElem (by rw [List.length_drop]; omega), List.getElem_drop]
                      simp only [show m + (e - m) = e by omega]
                    rw [hsp, List.mem_append] at hx
                    rcases hx with hx | hx
                    · exact hno.out x hx
                    · simp at hx; rw [hx]; exact hb
                  rw [hb] at Hble
                  generalize l[e].toNat = y at hie Hble
                  clear hb
                  go_wp2_with (go_at_call 31; refine (Hble.out _).mono ?_; rintro e' w' ⟨rfl, rfl⟩)
                  go_round
                  case rel => exact ⟨e + 1, by go_num, by omega, by omega, Hno2.out⟩
                  case measure => simp [intOf]; omega
              · have Hwl : Hid (e = k + wsize (l.drop k)) := wsize_at l k m e Hj.out he1 (by rw [Hsl.out]; exact he2) hno.out (Or.inl (by rw [Hsl.out]; omega))
                have hes0 : (s.size : Int) ≤ (e : Int) := by omega
                go_upto_region 16 with fail
                have hke : k < e := by have := Hwl.out; have := Hws.out; omega
                have hke' : (k : Int) ≤ (e : Int) := by omega
                have hes : (e : Int) ≤ (s.size : Int) := by omega
                have hk0 : (0 : Int) ≤ (k : Int) := by omega
                have Hres2 : Hid (W = (acc ++ [(l.drop k).take (wsize (l.drop k))]) ++ wordsL (l.drop e)) := by
                  show _ = _
                  rw [hres.out, wordsL_word _ (by have := Hws.out; omega), List.drop_drop, ← Hwl.out, List.append_assoc]
                  rfl
                have Htx : Hid (texts acc ++ [Value.string (s.extract k e)] = texts (acc ++ [(l.drop k).take (wsize (l.drop k))])) := by
                  show _ = _
                  rw [Lib.extract_eq, ← Hl.out, show e - k = wsize (l.drop k) by have := Hwl.out; omega]
                  simp [texts]
                have Hal : Hid ((texts acc).length + 1 ≤ 8589934592) := by show _ ≤ _; rw [texts, List.length_map]; have := hacc.out; omega
                have Hs2 : Hid (w.heap.size ≤ wc.heap.size) := hbel.out.size
                go_wp2_with (at_builtin; go_must (refine app_one rfl (.tmp 62) (.tmp 67) 36 9 rfl Try.underlying36 _ 16 infoS rfl w.heap.size _ _ rfl (OwnV.alloc hown.out _) ⟨wc.heap.size, 0, none⟩ 1 (.string (s.extract k e)) rfl (cell_new _ _ _) rfl (by have := Hal.out; omega) (by have := Hal.out; omega) (Nat.le_trans Hs2.out (by simp)) ?_); intro v3 w3 hown3 hbel3 _; rw [Htx.out] at hown3)
                exact ⟨⟨e, acc ++ [(l.drop k).take (wsize (l.drop k))], by omega, rfl, by show _ ≤ _; rw [List.length_append, List.length_singleton]; have := hacc.out; omega, hown3, (hbel.out.alloc Hs2.out _).trans hbel3, Hres2.out⟩, by simp [intOf]; omega⟩
          · have Hwl : Hid (s.size = k + wsize (l.drop k)) := by
              have hq : s.size = k + qsize (l.drop k) := by rw [← Hmin.out]; omega
              exact wsize_at l k s.size s.size hq (Nat.le_refl _) (by rw [Hsl.out]; exact Nat.le_refl _) (fun x hx => by simp at hx) (Or.inl Hsl.out.symm)
            have hms' : (s.size : Int) < (m : Int) := by omega
            go_wp2_with fail
            go_loop [4] (fun i => i = .int .i64 (m : Int)) (fun i => 0)
            case atStart => rfl
            case round =>
              subst hrel
              go_upto_region 16 with fail
              have hke : k < s.size := by have := Hwl.out; have := Hws.out; omega
              have hke' : (k : Int) ≤ (s.size : Int) := by omega
              have hes : (s.size : Int) ≤ (s.size : Int) := by omega
              have hk0 : (0 : Int) ≤ (k : Int) := by omega
              have Hres2 : Hid (W = (acc ++ [(l.drop k).take (wsize (l.drop k))]) ++ wordsL (l.drop s.size)) := by
                show _ = _
                rw [hres.out, wordsL_word _ (by have := Hws.out; omega), List.drop_drop, ← Hwl.out, List.append_assoc]
                rfl
              have Htx : Hid (texts acc ++ [Value.string (s.extract k s.size)] = texts (acc ++ [(l.drop k).take (wsize (l.drop k))])) := by
                show _ = _
                rw [Lib.extract_eq, ← Hl.out, show s.size - k = wsize (l.drop k) by have := Hwl.out; omega]
                simp [texts]
              have Hal : Hid ((texts acc).length + 1 ≤ 8589934592) := by show _ ≤ _; rw [texts, List.length_map]; have := hacc.out; omega
              have Hs2 : Hid (w.heap.size ≤ wc.heap.size) := hbel.out.size
              go_wp2_with (at_builtin; go_must (refine app_one rfl (.tmp 62) (.tmp 67) 36 9 rfl Try.underlying36 _ 16 infoS rfl w.heap.size _ _ rfl (OwnV.alloc hown.out _) ⟨wc.heap.size, 0, none⟩ 1 (.string (s.extract k s.size)) rfl (cell_new _ _ _) rfl (by have := Hal.out; omega) (by have := Hal.out; omega) (Nat.le_trans Hs2.out (by simp)) ?_); intro v3 w3 hown3 hbel3 _; rw [Htx.out] at hown3)
              exact ⟨⟨s.size, acc ++ [(l.drop k).take (wsize (l.drop k))], by omega, rfl, by show _ ≤ _; rw [List.length_append, List.length_singleton]; have := hacc.out; omega, hown3, (hbel.out.alloc Hs2.out _).trans hbel3, Hres2.out⟩, by simp [intOf]; omega⟩
    · obtain rfl : k = s.size := by omega
      have Hfin : Hid (W = acc) := by
        show _ = _
        rw [hres.out, ← Hsl.out, List.drop_length, wordsL_nil, List.append_nil]
      go_wp2_with fail
      go_ret
      exact ⟨_, rfl, by rw [Hfin.out]; exact hown.out, hbel.out⟩
end Go.Proofs.Ytlaphhldmgmbhaa
