/-
  What a quoted text's front stands for: the program's reader of it.
-/
import Derived.Test.YtncaaiaffioegaaDoorNParse2
import Derived.Test.YtncaaiaffioegaaDoorNText
namespace Go.Proofs.YtncaaiaffioegaaDoor
open Go.RowKit

theorem hval_hexv : ∀ n : Fin 256, hval n.val = hexv (UInt8.ofNat n.val) := by decide +kernel
theorem hval_at (x : UInt8) : hval x.toNat = hexv x := by
  have := hval_hexv ⟨x.toNat, x.toNat_lt⟩
  simpa using this
/-- the front of an escaped text, by its places -/
theorem unesc1_at (l : List UInt8) (h : 0 < l.length) : unesc1 l =
    if at0 l 0 ≠ 92 ∨ l.length < 2 then (l.getD 0 0, 1) else if at0 l 1 ≠ 120 ∨ l.length < 4 then (l.getD 1 0, 2)
    else match hval2 (at0 l 2) (at0 l 3) with | some x => (UInt8.ofNat x, 4) | none => (l.getD 1 0, 2) := by
  match l with
  | [] => simp at h
  | [x] => simp [unesc1]
  | [x, y] => simp [unesc1, at0]
  | [x, y, a] => simp [unesc1, at0]
  | x :: y :: a :: b :: r =>
    by_cases h1 : x.toNat = 92
    · by_cases h2 : y.toNat = 120
      · have h3 : hval2 a.toNat b.toNat = (hexv a).bind fun p => (hexv b).map fun q => 16 * p + q := by unfold hval2; rw [hval_at, hval_at]
        simp only [unesc1, at0, List.getD_cons_zero, List.getD_cons_succ, List.length_cons, h1, h2]
        rw [h3]
        cases hexv a with
        | none => simp
        | some p => cases hexv b with
          | none => simp
          | some q => rw [if_neg (by omega), if_neg (by omega)]; rfl
      · simp [unesc1, at0, h1, h2]
    · simp [unesc1, at0, h1]

set_option maxRecDepth 20000 in
set_option maxHeartbeats 400000 in
theorem unescapeByte_any (s : ByteArray) (w : World) (h0 : 0 < s.size) (hE : Err w) :
    Calls Tryd.prog 26 #[.string s] w fun e w' => e = .returned (.tuple #[.int .u8 ((unesc1 s.data.toList).1.toNat : Int), .int .i64 ((unesc1 s.data.toList).2 : Nat)]) ∧ Below w.heap.size w w' := by
  obtain ⟨l, hl⟩ : ∃ l, l = s.data.toList := ⟨_, rfl⟩
  have Hl := Lib.hid hl
  have hsl : l.length = s.size := by rw [hl]; rfl
  have Hout := Lib.hid (unesc1_at l (by omega))
  rw [hsl] at Hout
  rw [← hl]
  generalize unesc1 l = out at Hout ⊢
  have hix0 : ∀ W, (Instr.index 9 (.string s) (.int .i64 0)).run Tryd.prog W = .ok (.int .u8 ((at0 l 0 : Nat) : Int)) W := fun W => by
    have := index_at s 0 (by omega) W
    rw [← hl] at this
    exact this
  have HE := Lib.hid hE
  by_cases hA : at0 l 0 = 92
  · rw [hA] at hix0
    by_cases hB : s.size < 2
    · have Ho : Hid (out = (l.getD 0 0, 1)) := by show _ = _; rw [Hout.out, if_pos (.inr hB)]
      have e1 : (s.size : Int) < 2 := by omega
      have Hc : Hid ((l.getD 0 0).toNat = 92) := hA
      clear Hout hsl hl hE h0 hA hB
      go_enter Tryd.func26, Tryd.ntmps26
      go_wp2_with fail
      go_ret2
      exact ⟨by rw [Ho.out, Hc.out]; rfl, Below.refl _ _⟩
    · have hix1 : ∀ W, (Instr.index 9 (.string s) (.int .i64 1)).run Tryd.prog W = .ok (.int .u8 ((at0 l 1 : Nat) : Int)) W := fun W => by
        have := index_at s 1 (by omega) W
        rw [← hl] at this
        exact this
      have e1 : decide ((s.size : Int) < 2) = false := by simp; omega
      by_cases hC : at0 l 1 = 120
      · rw [hC] at hix1
        have Hc : Hid ((l.getD 1 0).toNat = 120) := hC
        by_cases hD : s.size < 4
        · have Ho : Hid (out = (l.getD 1 0, 2)) := by show _ = _; rw [Hout.out, if_neg (by omega), if_pos (.inr hD)]
          have e2 : decide ((s.size : Int) < 4) = true := by simp; omega
          clear Hout hsl hl hE h0 hA hB hC hD
          go_enter Tryd.func26, Tryd.ntmps26
          go_wp2_with fail
          go_ret2
          exact ⟨by rw [Ho.out, Hc.out]; rfl, Below.refl _ _⟩
        · have Ho : Hid (out = match hval2 (at0 l 2) (at0 l 3) with | some x => (UInt8.ofNat x, 4) | none => (l.getD 1 0, 2)) := by show _ = _; rw [Hout.out, if_neg (by omega), if_neg (by omega)]
          have e2 : decide ((s.size : Int) < 4) = false := by simp; omega
          have hcut : (s.extract 2 4).data.toList = [l.getD 2 0, l.getD 3 0] := by
            rw [Lib.extract_data, ← hl]
            match l, hsl with
            | x :: y :: a :: b :: r, _ => simp
            | [], h => simp at h; omega
            | [x], h => simp at h; omega
            | [x, y], h => simp at h; omega
            | [x, y, a], h => simp at h; omega
          have hp := parse_any (s.extract 2 4) _ _ w hcut (fun _ => hE)
          change Calls _ _ _ _ (fun e w' => (∃ v x, e = .returned (.tuple #[.int .u64 (x : Int), v]) ∧ ((hval2 (at0 l 2) (at0 l 3) = some x.toNat ∧ 0 ≤ x ∧ v = .nilIface) ∨ (hval2 (at0 l 2) (at0 l 3) = none ∧ ∃ t p, v = .iface t p))) ∧ Below w.heap.size w w') at hp
          have hs4 : (4 : Int) ≤ (s.size : Int) := by omega
          generalize hval2 (at0 l 2) (at0 l 3) = r at Ho hp
          have Hp := Lib.hid hp
          clear Hout hsl hl hE h0 hA hB hC hD hp hcut
          go_enter Tryd.func26, Tryd.ntmps26
          go_wp2_with fail
          refine Hp.out.mono ?_
          rintro e w1 ⟨⟨v, x, rfl, hr⟩, hb⟩
          have Hb := Lib.hid hb
          clear hb
          obtain ⟨hr, hx, rfl⟩ | ⟨hr, t, p, rfl⟩ := hr
          · have Ho2 : Hid (out = (UInt8.ofNat x.toNat, 4)) := by show _ = _; rw [Ho.out, hr]
            have Hx : Hid (x % 256 = ((UInt8.ofNat x.toNat).toNat : Int)) := by
              show _ = _
              rw [UInt8.toNat_ofNat']
              omega
            clear Ho hr hx
            go_wp2_with fail
            go_ret2
            exact ⟨by rw [Ho2.out, ← Hx.out]; rfl, Hb.out⟩
          · have Ho2 : Hid (out = (l.getD 1 0, 2)) := by show _ = _; rw [Ho.out, hr]
            clear Ho hr
            go_wp2_with fail
            go_ret2
            exact ⟨by rw [Ho2.out, Hc.out]; rfl, Hb.out⟩
      · have Ho : Hid (out = (l.getD 1 0, 2)) := by show _ = _; rw [Hout.out, if_neg (by omega), if_pos (.inl hC)]
        have Hc : Hid ((l.getD 1 0).toNat = at0 l 1) := rfl
        have e2 : ¬ ((at0 l 1 : Int) = 120) := by omega
        generalize at0 l 1 = y at hix1 Hc e2
        clear Hout hsl hl hE h0 hA hB hC
        go_enter Tryd.func26, Tryd.ntmps26
        go_wp2_with fail
        all_goals
          go_ret2
          exact ⟨by rw [Ho.out, Hc.out]; rfl, Below.refl _ _⟩
  · have Ho : Hid (out = (l.getD 0 0, 1)) := by show _ = _; rw [Hout.out, if_pos (.inl hA)]
    have e1 : ¬ ((at0 l 0 : Int) = 92) := by omega
    have Hc : Hid ((l.getD 0 0).toNat = at0 l 0) := rfl
    generalize at0 l 0 = c at hix0 Hc e1
    clear Hout hsl hl hE h0 hA
    go_enter Tryd.func26, Tryd.ntmps26
    go_wp2_with fail
    all_goals
      go_ret2
      exact ⟨by rw [Ho.out, Hc.out]; rfl, Below.refl _ _⟩
end Go.Proofs.YtncaaiaffioegaaDoor
