/-
  NameRunes: whatever the text and the numbers: the call returns true.
-/
import Derived.Test.YtlaphhldmgmbhaaNKnown
import Derived.Test.YtlaphhldmgmbhaaNRefRunes
import Derived.Test.YtlaphhldmgmbhaaNWrite
namespace Go.Proofs.Ytlaphhldmgmbhaa
open Go.RowKit

/-- a text that is one: its runes' text is itself -/
theorem text_runes (l : List UInt8) (h : runesB l = true) : textL ((runesL l).map fun (r : Nat) => (r : Int)) = l := by
  unfold runesB at h
  unfold runesL
  unfold runesOf at h ⊢
  by_cases ha : (segsOf l).all Seg.ok = true
  · rw [if_pos ha, Option.getD_some, textL, List.map_map, List.flatMap_map]
    conv => rhs; rw [← segsOf_bytes l]
    rw [List.all_eq_true] at ha
    have hg := segsOf_good l
    generalize segsOf l = sg at ha hg
    induction sg with
    | nil => rfl
    | cons x sg ih =>
      rw [List.flatMap_cons, List.flatMap_cons, ih (fun y hy => ha y (by simp [hy])) (fun y hy => hg y (by simp [hy]))]
      congr 1
      have h1 := ha x (by simp)
      have h2 := hg x (by simp)
      cases h2 with
      | low y hy =>
        show Lib.encodeRune (y.toNat : Int) = [y]
        rw [Lib.encodeRune, Lib.encodeRuneZ_one (by omega) (by omega)]
        simp
      | high bs v _ _ _ _ _ _ he => exact he
      | torn y hy => cases h1
  · rw [if_neg ha] at h
    cases h
theorem i32s_z (L : List Nat) : i32s L = i32z (L.map fun (r : Nat) => (r : Int)) := by
  simp [i32s, i32z]
theorem textL_le (zs : List Int) : (textL zs).length ≤ 4 * zs.length := by
  unfold textL
  induction zs with
  | nil => simp
  | cons z zs ih =>
    rw [List.flatMap_cons, List.length_append, List.length_cons]
    have := Lib.runeCells_le z
    rw [Lib.runeCells_length] at this
    omega

/-- rows of unlike kinds lie apart -/
theorem rows_apart {w : World} {base base' : Nat} {t r : Value} {l : List UInt8} {xs : List Value} {e : TypeId} (h : Own w base t l) (h' : OwnV w base' e r xs) (hne : e ≠ 5) : t.ownBlock = none ∨ t.ownBlock ≠ r.ownBlock := by
  rcases h.2 with ⟨rfl, _⟩ | ⟨g, cap, cur, rfl, hb, hg, _⟩
  · exact .inl rfl
  · right
    rcases h'.2 with ⟨rfl, _⟩ | ⟨g', cap', cur', rfl, hb', hg', _⟩
    · simp [Value.ownBlock]
    · simp only [Value.ownBlock]
      intro e'
      have : g = g' := by simpa using e'
      subst this
      rw [hg] at hg'
      simp only [Option.some.injEq, Obj.cells.injEq] at hg'
      exact hne hg'.2.1.symm
theorem Own.grown_other {w w' : World} {base base' : Nat} {t r : Value} {l : List UInt8} {xs : List Value} {e : TypeId} (h : Own w base t l) (h' : OwnV w base' e r xs) (hne : e ≠ 5) (hg : w.grownBy w' r.ownBlock) : Own w' base t l :=
  World.ownsRow.kept h hg (rows_apart h h' hne)
theorem OwnV.others {w w' : World} {base : Nat} {e : TypeId} {v : Value} {xs : List Value} (h : OwnV w base e v xs) (hne : e ≠ 5) (ho : Lib.OthersKept 5 none w w') : OwnV w' base e v xs := by
  refine ⟨h.1, ?_⟩
  rcases h.2 with h | ⟨g, cap, cur, hv, hb, hg, r⟩
  · exact .inl h
  · refine .inr ⟨g, cap, cur, hv, hb, ho g _ hg (by simp) (fun c fz e' => ?_), r⟩
    simp only [Obj.cells.injEq] at e'
    exact hne e'.2.1
theorem take_snocZ (zs : List Int) (k : Nat) (h : k < zs.length) : i32z (zs.take k) ++ [.int .i32 zs[k]] = i32z (zs.take (k + 1)) ∧ textL (zs.take k) ++ Lib.encodeRune zs[k] = textL (zs.take (k + 1)) := by
  rw [List.take_succ_eq_append_getElem h]
  unfold i32z textL
  rw [List.map_append, List.flatMap_append, List.flatMap_cons, List.flatMap_nil, List.append_nil]
  exact ⟨rfl, rfl⟩

set_option maxRecDepth 20000 in
set_option maxHeartbeats 4000000 in
theorem runesLaw_any (s : ByteArray) (A : Option Addr) (zs : List Int) (c : Nat) (w : World) (hz : RZ w w.heap.size A zs) (hw : ∀ z ∈ zs, -2147483648 ≤ z ∧ z ≤ 2147483647) :
    Calls Try.prog 3 #[.string s, .slice A zs.length c] w fun e w' => e = .returned (.bool true) ∧ Below w.heap.size w w' := by
  have Hk := Lib.hid (known_any w)
  have Hz := Lib.hid hz
  have Hw := Lib.hid hw
  clear hz hw
  by_cases hbig : 32768 < s.size ∨ 8192 < zs.length
  · have hb : (32768 : Int) < (s.size : Int) ∨ ((s.size : Int) ≤ 32768 ∧ (8192 : Int) < (zs.length : Int)) := by omega
    clear hbig
    rcases hb with hb | ⟨hb, hb2⟩
    all_goals
      go_enter Try.func3, Try.ntmps3
      go_wp2_with fail
      refine Hk.out.mono ?_
      rintro e w1 ⟨rfl, hb1⟩
      have Hb1 := Lib.hid hb1
      clear hb1
      go_wp2_with fail
      go_ret
      exact ⟨rfl, Hb1.out⟩
  · have hb : (s.size : Int) ≤ 32768 := by omega
    have hb2 : (zs.length : Int) ≤ 8192 := by omega
    have Hr := Lib.hid (fun W => runes_any s W (by omega))
    have Hrr := Lib.hid (fun W => refRunes_any s W (by omega))
    have Hc := Lib.hid (fun W => check_any s W (by omega))
    have Hcc := Lib.hid (fun W => refCheck_any s W (by omega))
    have hln := runesL_len s.data.toList
    rw [show s.data.toList.length = s.size from rfl] at hln
    have Htr := Lib.hid (text_runes s.data.toList)
    obtain ⟨L, hL⟩ : ∃ L, L = runesL s.data.toList := ⟨_, rfl⟩
    obtain ⟨ok, hok⟩ : ∃ ok, ok = runesB s.data.toList := ⟨_, rfl⟩
    obtain ⟨ck, hck⟩ : ∃ ck, ck = checkL s.data.toList := ⟨_, rfl⟩
    rw [← hL, ← hok] at Hr Hrr
    rw [← hck] at Hc Hcc
    rw [← hL, ← hok] at Htr
    rw [← hL] at hln
    have hln' : (L.length : Int) ≤ 32768 := by omega
    have Hle : Hid (∀ r ∈ L, r ≤ 1114111) := by rw [hL]; exact runesL_le _
    clear hL hok hck hbig
    go_enter Try.func3, Try.ntmps3
    go_wp2_with fail
    refine Hk.out.mono ?_
    rintro e w1 ⟨rfl, hb1⟩
    have Hb1 := Lib.hid hb1
    clear hb1
    go_wp2_with fail
    refine (Hr.out _).mono ?_
    rintro e w2 ⟨va, rfl, howna, hb2'⟩
    have Hb2 : Hid (Below w.heap.size w w2) := Hb1.out.trans (hb2'.mono Hb1.out.size)
    have Howna := Lib.hid howna
    clear hb2' howna
    go_wp2_with fail
    refine (Hrr.out _).mono ?_
    rintro e w3 ⟨vb, rfl, hownb, hb3⟩
    have Hb3 : Hid (Below w.heap.size w w3) := Hb2.out.trans (hb3.mono Hb2.out.size)
    have Howna3 := Lib.hid (Howna.out.below hb3)
    have Hownb3 := Lib.hid hownb
    obtain ⟨A1, ca, hva, _, _, _⟩ := Howna3.out.rd
    obtain ⟨B1, cb, hvb, _, _, _⟩ := Hownb3.out.rd
    rw [i32s, List.length_map] at hva
    rw [i64s, List.length_map] at hvb
    subst hva hvb
    clear hb3 hownb Howna
    go_wp2_with fail
    refine (Hc.out _).mono ?_
    rintro e w4 ⟨rfl, hb4⟩
    have Hb4 : Hid (Below w.heap.size w w4) := Hb3.out.trans (hb4.mono Hb3.out.size)
    have Howna4 := Lib.hid (Howna3.out.below hb4)
    have Hownb4 := Lib.hid (Hownb3.out.below hb4)
    clear hb4 Howna3 Hownb3
    go_wp2_with fail
    refine (Hcc.out _).mono ?_
    rintro e w5 ⟨rfl, hb5⟩
    have Hb5 : Hid (Below w.heap.size w w5) := Hb4.out.trans (hb5.mono Hb4.out.size)
    have Howna5 := Lib.hid (Howna4.out.below hb5)
    have Hownb5 := Lib.hid (Hownb4.out.below hb5)
    clear hb5 Howna4 Hownb4
    go_wp2_with fail
    go_loopw [9] (fun i wr => ∃ k : Nat, k ≤ L.length ∧ i = .int .i64 (k : Int) ∧ Hid (OwnV wr w1.heap.size 21 (.slice A1 L.length ca) (i32s L)) ∧ Hid (OwnV wr w2.heap.size 3 (.slice B1 L.length cb) (i64s L)) ∧ Hid (Below w.heap.size w wr)) (fun i _ => (L.length - intOf i).toNat)
    case atStart => exact ⟨0, by omega, rfl, Howna5.out, Hownb5.out, Hb5.out⟩
    case round =>
      obtain ⟨k, hk, rfl, howna, hownb, hbel⟩ := hrel
      obtain ⟨wo, rfl⟩ : ∃ wo : World, wo = wr := ⟨_, rfl⟩
      by_cases hkl : k < L.length
      · obtain ⟨A', ca', hA, _, _, hcA⟩ := howna.out.rd
        obtain ⟨B', cb', hB, _, _, hcB⟩ := hownb.out.rd
        simp only [Value.slice.injEq] at hA hB
        obtain ⟨rfl, -, rfl⟩ := hA
        obtain ⟨rfl, -, rfl⟩ := hB
        obtain ⟨a, rfl, hba, hca⟩ := hcA k (.int .i32 (L[k] : Int)) (by rw [i32s, List.getElem?_map, List.getElem?_eq_getElem hkl]; rfl)
        obtain ⟨b, rfl, hbb, hcb⟩ := hcB k (.int .i64 (L[k] : Int)) (by rw [i64s, List.getElem?_map, List.getElem?_eq_getElem hkl]; rfl)
        have hkl' : (k : Int) < (L.length : Int) := by omega
        have hrl : L[k] ≤ 1114111 := Hle.out _ (List.getElem_mem hkl)
        generalize L[k] = r at hca hcb hrl
        have hrl' : (r : Int) ≤ 1114111 := by omega
        clear hcA hcB hba hbb hrl
        go_wp2_with fail
        go_quiet (fail)
        all_goals
          go_wp2_with fail
          go_roundw
          case rel => exact ⟨k + 1, by omega, by go_num, howna.out, hownb.out, show Below _ _ _ from ⟨hbel.out.os, hbel.out.tape, hbel.out.output, hbel.out.size, hbel.out.block⟩⟩
          case measure => simp [intOf]; omega
      · go_wp2_with fail
        go_loopw [10, 11, 12] (fun r t i wr => ∃ k : Nat, k ≤ zs.length ∧ i = .int .i64 (k : Int) ∧ Hid (OwnV wr wo.heap.size 21 r (i32z (zs.take k))) ∧ Hid (Own wr wo.heap.size t (textL (zs.take k))) ∧ Hid (Below wo.heap.size wo wr)) (fun _ _ i _ => (zs.length - intOf i).toNat)
        case atStart => exact ⟨0, by omega, rfl, OwnV.nil _ _ _, Own.nil _ _, Below.refl _ _⟩
        case round =>
          obtain ⟨k, hk, rfl, hr, ht, hbw⟩ := hrel
          obtain ⟨wi, rfl⟩ : ∃ wi : World, wi = wr := ⟨_, rfl⟩
          have Hsz : Hid (wo.heap.size ≤ wi.heap.size) := hbw.out.size
          by_cases hkz : k < zs.length
          · have Hzi := Lib.hid (Hz.out.below (hbel.out.trans (hbw.out.mono hbel.out.size)))
            obtain ⟨b, o, rfl, hb', hcz⟩ := Hzi.out k _ (List.getElem?_eq_getElem hkz)
            have hwz := Hw.out _ (List.getElem_mem hkz)
            obtain ⟨sn1, sn2⟩ := take_snocZ zs k hkz
            have Hsn1 := Lib.hid sn1
            have Hsn2 := Lib.hid sn2
            have hkz' : (k : Int) < (zs.length : Int) := by omega
            have hczf : ∀ W, Below w.heap.size wi W → W.cell? ⟨b, o + k, none⟩ = some (.int .i32 zs[k]) := fun W hW => (hW.cell (p := ⟨b, o + k, none⟩) hb').trans hcz
            have Hczf := Lib.hid hczf
            have hczd : ∀ O, (wi.alloc O).cell? ⟨b, o + k, none⟩ = some (.int .i32 zs[k]) := fun O => hczf _ ((Below.refl _ _).alloc (by have := hbel.out.size; have := Hsz.out; omega) _)
            have Hil : Hid ((i32z (zs.take k)).length + 1 ≤ 10000) := by show _ ≤ _; rw [i32z, List.length_map, List.length_take]; omega
            have Htl : Hid ((textL (zs.take k)).length ≤ 1099511627776) := by show _ ≤ _; have := textL_le (zs.take k); rw [List.length_take] at this; omega
            generalize zs[k] = z at hcz hwz Hsn1 Hsn2 Hczf
            obtain ⟨hw1, hw2⟩ := hwz
            clear hczd sn1 sn2 hczf
            go_upto_region 20 with (at_builtin; go_must (refine app_one rfl (.tmp 72) (.tmp 77) 22 21 rfl Try.underlying22 _ 4 info32 rfl wo.heap.size _ _ rfl (OwnV.alloc hr.out _) ⟨wi.heap.size, 0, none⟩ 1 (.int .i32 z) rfl (cell_new _ _ _) rfl (by have := Hil.out; omega) (by have := Hil.out; omega) (Nat.le_trans Hsz.out (by simp)) ?_); intro v3 w3 hown3 hbel3 hg3)
            have Ht3 : Hid (Own w3 wo.heap.size _ (textL (zs.take k))) := Own.grown_other (Own.alloc ht.out _) (OwnV.alloc hr.out _) (by decide) hg3
            rw [Hsn1.out] at hown3
            have Hr3 := Lib.hid hown3
            have Hb3 : Hid (Below wo.heap.size wi w3) := ((Below.refl _ wi).alloc Hsz.out _).trans hbel3
            have hcz3 := Hczf.out w3 (Hb3.out.mono hbel.out.size)
            have Hs3 : Hid (wo.heap.size ≤ w3.heap.size) := Nat.le_trans Hsz.out Hb3.out.size
            clear hown3 hbel3 hg3 hcz
            go_wp2_with fail
            refine (refWrite_any _ wo.heap.size _ z w3 Ht3.out Hs3.out Htl.out hw1 hw2).mono ?_
            rintro e w4 ⟨t4, rfl, ho4, hb4, hk4⟩
            have Ho4 := Lib.hid ho4
            have Hr4 := Lib.hid (Hr3.out.others (by decide) hk4)
            have Hb4 : Hid (Below wo.heap.size wo w4) := hbw.out.trans (Hb3.out.trans hb4)
            clear ho4 hb4 hk4
            go_wp2_with fail
            go_roundw
            case rel => exact ⟨k + 1, by omega, by go_num, Hr4.out, by show Own _ _ _ _; rw [← Hsn2.out]; exact Ho4.out, Hb4.out⟩
            case measure => simp [intOf]; omega
          · obtain rfl : k = zs.length := by omega
            have hr2 := hr.out
            have ht2 := ht.out
            rw [List.take_length] at hr2 ht2
            have Hend : Hid (Below w.heap.size w wi) := hbel.out.trans (hbw.out.mono hbel.out.size)
            have Ha : Hid (OwnV wi w1.heap.size 21 (.slice A1 L.length ca) (i32z (L.map fun (r : Nat) => (r : Int)))) := by rw [← i32s_z]; exact howna.out.below hbw.out
            obtain ⟨R1, cr, hR, _, _, _⟩ := hr2.rd
            rw [i32z, List.length_map] at hR
            subst hR
            obtain ⟨T1, ct, hT, _, hTr, _⟩ := ht2.rb
            subst hT
            have hRZ := RZ.own hr2
            have hAZ := RZ.own (by rw [List.length_map]; exact Ha.out : OwnV wi w1.heap.size 21 (.slice A1 (L.map fun (r : Nat) => (r : Int)).length ca) (i32z (L.map fun (r : Nat) => (r : Int))))
            have Htx := Lib.hid (fun n => text_any R1 cr zs (wi.drewN n) _ hRZ)
            have hta := fun n => text_any A1 ca (L.map fun (r : Nat) => (r : Int)) (wi.drewN n) _ hAZ
            rw [List.length_map] at hta
            have Hta := Lib.hid hta
            have hcv := fun n => text_run (wi.drewN n) _ T1 _ ct hTr
            have heq1 : ((⟨(textL zs).toArray⟩ : ByteArray).toList == (⟨(textL zs).toArray⟩ : ByteArray).toList) = true := by simp
            have heq2 : (s.toList == s.toList) = true := by simp
            generalize textL zs = tz at Htx hcv heq1
            clear hRZ hAZ hta hr2 ht2 hTr hr ht
            cases ok with
            | false =>
              go_wp2_with fail
              go_quiet ((go_at_call 14; exact Calls.quiet_of_same (Htx.out _)))
              all_goals
                go_wp2_with fail
                go_ret
                exact ⟨rfl, show Below _ _ _ from ⟨Hend.out.os, Hend.out.tape, Hend.out.output, Hend.out.size, Hend.out.block⟩⟩
            | true =>
              have Hta2 : Hid (∀ n, Calls Try.prog 14 #[.slice A1 L.length ca] (wi.drewN n) fun e w' => e = .returned (.string s) ∧ w' = wi.drewN n) := by
                intro n
                have := Hta.out n
                rw [Htr.out rfl, Lib.mk_data] at this
                exact this
              go_wp2_with fail
              go_quiet ((first | (go_at_call 14; exact Calls.quiet_of_same (Htx.out _)) | (go_at_call 14; exact Calls.quiet_of_same (Hta2.out _))))
              all_goals
                go_wp2_with fail
                go_ret
                exact ⟨rfl, show Below _ _ _ from ⟨Hend.out.os, Hend.out.tape, Hend.out.output, Hend.out.size, Hend.out.block⟩⟩
end Go.Proofs.Ytlaphhldmgmbhaa
