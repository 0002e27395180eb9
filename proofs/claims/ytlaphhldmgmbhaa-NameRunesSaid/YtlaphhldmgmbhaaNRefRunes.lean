/-
  The second saying's runes, its check.
-/
import Derived.Test.YtlaphhldmgmbhaaNOne
import Derived.Test.YtlaphhldmgmbhaaNCheck
namespace Go.Proofs.Ytlaphhldmgmbhaa
open Go.RowKit

/-- a text's bytes, how many -/
def strLen (v : Value) : Nat := match v with | .string s => s.size | _ => 0
theorem text_empty (s : ByteArray) (h : s.size = 0) : s.toList.isEmpty = true := by
  rw [nil_text s h, Lib.toList_data]
  rfl
set_option maxRecDepth 20000 in
set_option maxHeartbeats 1000000 in
theorem refRunes_any (s : ByteArray) (w : World) (hs : s.size ≤ 4294967296) :
    Calls Try.prog 10 #[.string s] w fun e w' => ∃ v, e = .returned (.tuple #[v, .bool (runesB s.data.toList)]) ∧ OwnV w' w.heap.size 3 v (i64s (runesL s.data.toList)) ∧ Below w.heap.size w w' := by
  obtain ⟨R, hR⟩ : ∃ R, R = runesOf s.data.toList := ⟨_, rfl⟩
  have HR := Lib.hid hR
  have hB : runesB s.data.toList = R.isSome := by rw [hR]; rfl
  have hL : runesL s.data.toList = R.getD [] := by rw [hR]; rfl
  rw [hB, hL]
  clear hR hB hL
  go_enter Try.func10, Try.ntmps10
  go_wp2_with fail
  go_loopw [0, 4] (fun d v wr => ∃ (u : ByteArray) (L : List Nat), d = .string u ∧ u.size ≤ s.size ∧ Hid (L.length + u.size ≤ s.size) ∧ Hid (OwnV wr w.heap.size 3 v (i64s L)) ∧ Hid (Below w.heap.size w wr) ∧ Hid (R = (runesOf u.data.toList).map (L ++ ·))) (fun d _ _ => strLen d)
  case atStart => exact ⟨s, [], rfl, Nat.le_refl _, by show _ ≤ _; simp, OwnV.nil _ _ _, Below.refl _ _, by show R = _; rw [HR.out]; simp⟩
  case round =>
    obtain ⟨u, L, rfl, hu, hLn, hown, hbel, hres⟩ := hrel
    have Hsl : Hid (u.data.toList.length = u.size) := by show _ = _; rfl
    have hus : (u.size : Int) ≤ 4294967296 := by omega
    have Hsz : Hid (w.heap.size ≤ wr.heap.size) := hbel.out.size
    by_cases h0 : u.size = 0
    · have hne := text_empty u h0
      have Hfin : Hid (R = some L) := by
        show _ = _
        have : u.data.toList = [] := List.eq_nil_of_length_eq_zero (by rw [Hsl.out]; exact h0)
        rw [hres.out, this, runesOf_nil]
        simp
      clear h0
      go_wp2_with fail
      go_ret2
      exact ⟨_, by rw [Hfin.out]; rfl, by rw [Hfin.out]; exact hown.out, hbel.out⟩
    · have hne := text_nonempty u (by omega)
      have hul : u.data.toList ≠ [] := by intro e; have := Hsl.out; rw [e] at this; exact h0 this.symm
      have Hone := Lib.hid (fun W => one_any u W (by omega))
      have hf := (one_facts u.data.toList).1
      rw [Hsl.out] at hf
      have Hst : Hid (((one u.data.toList).2 = 0 → R = none) ∧ ((one u.data.toList).2 ≠ 0 → R = (runesOf (u.extract (one u.data.toList).2 u.size).data.toList).map ((L ++ [(one u.data.toList).1]) ++ ·))) := by
        refine ⟨fun h => by rw [hres.out, runesOf_torn _ hul h]; rfl, fun h => ?_⟩
        rw [hres.out, runesOf_more _ hul h, extract_tail, Option.map_map]
        congr 1
        funext x
        simp
      generalize one u.data.toList = o at Hone hf Hst
      obtain ⟨v, n⟩ := o
      dsimp only at Hone hf Hst
      have hf' : (n : Int) ≤ (u.size : Int) := by omega
      clear hul
      by_cases hn : n = 0
      · have Hres := Lib.hid (Hst.out.1 hn)
        have hb0 : ((n : Int) == 0) = true := by simp [hn]
        clear hn Hst
        go_wp2_with fail
        refine (Hone.out _).mono ?_
        rintro e w' ⟨rfl, rfl⟩
        go_wp2_with fail
        go_ret2
        exact ⟨_, by rw [Hres.out]; rfl, by rw [Hres.out]; exact OwnV.nil _ _ _, hbel.out⟩
      · have Hres := Lib.hid (Hst.out.2 hn)
        have hb0 : ((n : Int) == 0) = false := by simp [hn]
        have hn0 : 0 < n := by omega
        have hsz := extract_size u n
        have Hsz1 := Lib.hid hsz
        have hil : (i64s L).length = L.length := by simp [i64s]
        have Hil : Hid ((i64s L).length + 1 ≤ 4294967297) := by show _ ≤ _; rw [hil]; have := hLn.out; omega
        have Hin : Hid (i64s L ++ [.int .i64 (v : Int)] = i64s (L ++ [v])) := by show _ = _; simp [i64s]
        clear hn Hst hsz hil
        go_wp2_with fail
        refine (Hone.out _).mono ?_
        rintro e w' ⟨rfl, rfl⟩
        go_wp2_with (at_builtin; go_must (refine app_one rfl (.tmp 16) (.tmp 18) 26 3 rfl Try.underlying26 _ 8 info64 rfl w.heap.size _ _ rfl (OwnV.alloc hown.out _) ⟨wr.heap.size, 0, none⟩ 1 (.int .i64 (v : Int)) rfl (cell_new _ _ _) rfl (by have := Hil.out; omega) (by have := Hil.out; omega) (Nat.le_trans Hsz.out (by simp)) ?_); intro v3 w3 hown3 hbel3 _; rw [Hin.out] at hown3)
        exact ⟨⟨_, L ++ [v], rfl, by rw [Hsz1.out]; omega, by show _ ≤ _; rw [Hsz1.out, List.length_append, List.length_singleton]; have := hLn.out; omega, hown3, (hbel.out.alloc Hsz.out _).trans hbel3, Hres.out⟩, by simp only [strLen]; rw [Hsz1.out]; omega⟩

/-- a rune that a name may not have, as the second saying asks -/
theorem barred_any_of (L : List Nat) : (anyBarred L = true ↔ ∃ k, ∃ h : k < L.length, barredB L[k] = true) := by
  unfold anyBarred
  rw [List.any_eq_true]
  constructor
  · rintro ⟨x, hx, hb⟩
    obtain ⟨k, hk, rfl⟩ := List.mem_iff_getElem.1 hx
    exact ⟨k, hk, hb⟩
  · rintro ⟨k, hk, hb⟩
    exact ⟨_, List.getElem_mem hk, hb⟩
/-- the second saying's order of its questions -/
theorem checkL_ref (l : List UInt8) : checkL l = if runesB l = false then 1 else if (runesL l).length < 1 then 1 else if 32 < (runesL l).length then 1 else if 64 < l.length then 1 else if anyBarred (runesL l) = true then 1 else 0 := by
  unfold checkL
  repeat' split
  all_goals first | rfl | omega
set_option maxRecDepth 20000 in
set_option maxHeartbeats 4000000 in
theorem refCheck_any (s : ByteArray) (w : World) (hs : s.size ≤ 4294967296) :
    Calls Try.prog 12 #[.string s] w fun e w' => e = .returned (.int .i64 (checkL s.data.toList : Nat)) ∧ Below w.heap.size w w' := by
  have Hsl : Hid (s.data.toList.length = s.size) := by show _ = _; rfl
  have Hrn := Lib.hid (refRunes_any s w hs)
  have Hle := Lib.hid (runesL_le s.data.toList)
  have hln := runesL_len s.data.toList
  rw [checkL_ref]
  rw [Hsl.out] at hln ⊢
  generalize runesL s.data.toList = L at Hrn Hle hln ⊢
  generalize runesB s.data.toList = ok at Hrn ⊢
  obtain ⟨out, hout⟩ : ∃ out : Nat, out = if ok = false then 1 else if L.length < 1 then 1 else if 32 < L.length then 1 else if 64 < s.size then 1 else if anyBarred L = true then 1 else 0 := ⟨_, rfl⟩
  rw [← hout]
  have Hout0 := Lib.hid hout
  clear hout
  by_cases hbad : ok = false ∨ (ok = true ∧ (L.length < 1 ∨ (1 ≤ L.length ∧ (32 < L.length ∨ (L.length ≤ 32 ∧ 64 < s.size)))))
  · have Hout : Hid (out = 1) := by
      show _ = _
      rw [Hout0.out]
      rcases hbad with h | ⟨h0, h | ⟨h1, h | ⟨h2, h⟩⟩⟩
      · rw [if_pos h]
      · rw [if_neg (by simp [h0]), if_pos h]
      · rw [if_neg (by simp [h0]), if_neg (by omega), if_pos h]
      · rw [if_neg (by simp [h0]), if_neg (by omega), if_neg (by omega), if_pos h]
    clear Hout0
    rcases hbad with rfl | ⟨rfl, h | ⟨h1, h | ⟨h2, h⟩⟩⟩
    all_goals
      go_enter Try.func12, Try.ntmps12
      go_wp2_with fail
      refine Hrn.out.mono ?_
      rintro e w1 ⟨v, rfl, hown, hb⟩
      have Hb := Lib.hid hb
      obtain ⟨A, c, hv, _, _, _⟩ := hown.rd
      rw [i64s, List.length_map] at hv
      subst hv
      clear hown hb
      go_wp2_with fail
      go_ret
      exact ⟨by rw [Hout.out]; rfl, Hb.out⟩
  · have hok : ok = true := by cases ok with | true => rfl | false => exact absurd (Or.inl rfl) hbad
    subst hok
    have hb2 : ¬ (L.length < 1 ∨ (1 ≤ L.length ∧ (32 < L.length ∨ (L.length ≤ 32 ∧ 64 < s.size)))) := fun h => hbad (Or.inr ⟨rfl, h⟩)
    have h1 : 1 ≤ L.length := by omega
    have h2 : L.length ≤ 32 := by omega
    have h3 : s.size ≤ 64 := by omega
    clear hb2
    have hout1 := Hout0.out
    rw [if_neg (by simp), if_neg (by omega), if_neg (by omega), if_neg (by omega)] at hout1
    have Hout1 := Lib.hid hout1
    have h1' : (1 : Int) ≤ (L.length : Int) := by omega
    have h2' : (L.length : Int) ≤ 32 := by omega
    have h3' : (s.size : Int) ≤ 64 := by omega
    clear Hout0 hout1 hbad h1 h2 h3
    go_enter Try.func12, Try.ntmps12
    go_wp2_with fail
    refine Hrn.out.mono ?_
    rintro e w1 ⟨v, rfl, hown, hb⟩
    have Hb := Lib.hid hb
    have Hown := Lib.hid hown
    obtain ⟨A, c, hv, _, _, hcell⟩ := hown.rd
    have Hcell := Lib.hid hcell
    rw [i64s, List.length_map] at hv
    subst hv
    clear hown hb hcell
    go_wp2_with fail
    go_loop [5] (fun i => ∃ k : Nat, k ≤ L.length ∧ i = .int .i64 (k : Int) ∧ Hid (∀ r ∈ L.take k, barredB r = false)) (fun i => (L.length - intOf i).toNat)
    case atStart => exact ⟨0, by omega, rfl, fun r hr => by simp at hr⟩
    case round =>
      obtain ⟨k, hk, rfl, hno⟩ := hrel
      by_cases hkl : k < L.length
      · obtain ⟨b, rfl, hb, hc⟩ := Hcell.out k _ (by rw [i64s, List.getElem?_map, List.getElem?_eq_getElem hkl]; rfl)
        have Htk : Hid (L.take (k + 1) = L.take k ++ [L[k]]) := List.take_succ_eq_append_getElem hkl
        have Hany := Lib.hid (barred_any_of L)
        have Hbk : Hid (barredB L[k] = true → out = 1) := fun h => by rw [Hout1.out, if_pos (Hany.out.2 ⟨k, hkl, h⟩)]
        generalize L[k] = r at hc Htk Hbk
        have hkl' : (k : Int) < (L.length : Int) := by omega
        by_cases hbr : barredB r = true
        · have Hout := Lib.hid (Hbk.out hbr)
          have hcs : decide ((r : Int) ≤ 32) = true ∨ (decide ((r : Int) ≤ 32) = false ∧ ((decide ((127 : Int) ≤ (r : Int)) = true ∧ decide ((r : Int) ≤ 159) = true) ∨ ((decide ((127 : Int) ≤ (r : Int)) = false ∨ (decide ((127 : Int) ≤ (r : Int)) = true ∧ decide ((r : Int) ≤ 159) = false)) ∧ (((r : Int) == 47) = true ∨ (((r : Int) == 47) = false ∧ (((r : Int) == 34) = true ∨ (((r : Int) == 34) = false ∧ (((r : Int) == 92) = true ∨ (((r : Int) == 92) = false ∧ ((r : Int) == 65533) = true))))))))) := by
            unfold barredB at hbr
            simp at hbr ⊢
            omega
          clear hbr Hbk hb
          rcases hcs with e1 | ⟨e1, ⟨e2, e3⟩ | ⟨e2 | ⟨e2, e3⟩, e4 | ⟨e4, e5 | ⟨e5, e6 | ⟨e6, e7⟩⟩⟩⟩⟩
          all_goals
            go_wp2_with fail
            go_ret
            exact ⟨by rw [Hout.out]; rfl, Hb.out⟩
        · have Hno2 : Hid (∀ r' ∈ L.take (k + 1), barredB r' = false) := by
            intro x hx
            rw [Htk.out, List.mem_append] at hx
            rcases hx with hx | hx
            · exact hno.out x hx
            · simp at hx; rw [hx]; simpa using hbr
          have hcs : decide ((r : Int) ≤ 32) = false ∧ (decide ((127 : Int) ≤ (r : Int)) = false ∨ (decide ((127 : Int) ≤ (r : Int)) = true ∧ decide ((r : Int) ≤ 159) = false)) ∧ ((r : Int) == 47) = false ∧ ((r : Int) == 34) = false ∧ ((r : Int) == 92) = false ∧ ((r : Int) == 65533) = false := by
            unfold barredB at hbr
            simp at hbr ⊢
            omega
          clear hbr Hbk hb
          obtain ⟨e1, e2 | ⟨e2, e3⟩, e4, e5, e6, e7⟩ := hcs
          all_goals
            go_wp2_with fail
            go_round
            case rel => exact ⟨k + 1, by omega, by go_num, Hno2.out⟩
            case measure => simp [intOf]; omega
      · obtain rfl : k = L.length := by omega
        have Hout : Hid (out = 0) := by
          show _ = _
          rw [Hout1.out, if_neg]
          intro h
          obtain ⟨k, hk, hb⟩ := (barred_any_of L).1 h
          have := hno.out L[k] (by rw [List.take_length]; exact List.getElem_mem hk)
          rw [hb] at this
          cases this
        go_wp2_with fail
        go_ret
        exact ⟨by rw [Hout.out]; rfl, Hb.out⟩
end Go.Proofs.Ytlaphhldmgmbhaa
