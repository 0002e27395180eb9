/-
  The second saying's writer of runes; runes as a text, by the program.
-/
import Derived.Test.YtlaphhldmgmbhaaNHex
import Derived.Test.YtlaphhldmgmbhaaNOne
import Derived.Laws.Cover4
namespace Go.Proofs.Ytlaphhldmgmbhaa
open Go.RowKit

theorem cells_of (r : Int) : bvs (Lib.encodeRune r) = (Lib.encodeRuneZ r).map fun x => Value.int .u8 x := Lib.byteCells_encodeRune r
theorem or_hi (a q n : Nat) (h : ∀ y : Fin n, a ||| y.val = a + y.val) (hq : q < n) (hn : a + n ≤ 256) : bits .or .i64 (a : Int) (q : Int) % 256 = (a : Int) + (q : Int) := by
  have h' : a ||| q = a + q := h ⟨q, hq⟩
  rw [i64_or_nat a q (by omega) (by omega), h']
  omega
theorem low63 (q : Int) (h0 : 0 ≤ q) (h1 : q ≤ 2000000) : bits .or .i64 128 (bits .and .i64 q 63) % 256 = 128 + q % 64 := by
  obtain ⟨n, rfl⟩ := Int.eq_ofNat_of_zero_le h0
  have ha := i64_low n 6 (by omega) (by omega)
  have ha' : bits .and .i64 (n : Int) 63 = ((n % 64 : Nat) : Int) := ha
  rw [ha']
  have := or_hi 128 (n % 64) 64 (by decide +kernel) (by omega) (by omega)
  have e : bits .or .i64 128 ((n % 64 : Nat) : Int) % 256 = 128 + ((n % 64 : Nat) : Int) := this
  rw [e]
  omega
theorem hi192 (q : Int) (h0 : 0 ≤ q) (h1 : q < 32) : bits .or .i64 192 q % 256 = 192 + q := by
  obtain ⟨n, rfl⟩ := Int.eq_ofNat_of_zero_le h0
  exact or_hi 192 n 32 (by decide +kernel) (by omega) (by omega)
theorem hi224 (q : Int) (h0 : 0 ≤ q) (h1 : q < 16) : bits .or .i64 224 q % 256 = 224 + q := by
  obtain ⟨n, rfl⟩ := Int.eq_ofNat_of_zero_le h0
  exact or_hi 224 n 16 (by decide +kernel) (by omega) (by omega)
theorem hi240 (q : Int) (h0 : 0 ≤ q) (h1 : q < 8) : bits .or .i64 240 q % 256 = 240 + q := by
  obtain ⟨n, rfl⟩ := Int.eq_ofNat_of_zero_le h0
  exact or_hi 240 n 8 (by decide +kernel) (by omega) (by omega)

set_option maxRecDepth 200000 in
set_option maxHeartbeats 1000000 in
theorem refWrite_any (v : Value) (base : Nat) (l : List UInt8) (r : Int) (w : World) (hown : Own w base v l) (hb : base ≤ w.heap.size) (hl : l.length ≤ 1099511627776) (h1 : -2147483648 ≤ r) (h2 : r ≤ 2147483647) :
    Calls Try.prog 13 #[v, .int .i64 r] w fun e w' => ∃ v', e = .returned v' ∧ Own w' base v' (l ++ Lib.encodeRune r) ∧ Below base w w' ∧ Lib.OthersKept 5 none w w' := by
  have Hown := Lib.hid hown
  have Hen := Lib.hid (cells_of r)
  have hb' : base ≤ w.heap.size + 1 := by omega
  clear hown
  rcases (show (0 ≤ r ∧ r ≤ 127) ∨ (128 ≤ r ∧ r ≤ 2047) ∨ ((2048 ≤ r ∧ r < 55296) ∨ (57344 ≤ r ∧ r ≤ 65535)) ∨ (65536 ≤ r ∧ r ≤ 1114111) ∨ (r < 0 ∨ (55296 ≤ r ∧ r ≤ 57343) ∨ 1114111 < r) by omega) with h | h | h | h | h
  · have hz := Lib.encodeRuneZ_one (r := r) h.1 h.2
    have Hc : Hid ([Value.int .u8 r] = bvs (Lib.encodeRune r)) := by show _ = _; rw [Hen.out, hz]; simp only [List.map_cons, List.map_nil]
    have Hq : Hid (1 = (Lib.encodeRune r).length) := by show _ = _; rw [Lib.encodeRune, hz]; rfl
    have Hlq : Hid (l.length + (Lib.encodeRune r).length ≤ 140737488355327) := by show _ ≤ _; rw [← Hq.out]; omega
    have d1 : decide (r < 0) = false := by simp; omega
    have d2 : decide ((1114111 : Int) < r) = false := by simp; omega
    have d3 : decide ((55296 : Int) ≤ r) = false := by simp; omega
    have d5 : decide (r < 128) = true := by simp; omega
    have hlo : (0 : Int) ≤ r := by omega
    have hhi : r ≤ 127 := by omega
    clear h h1 h2 hz
    go_enter Try.func13, Try.ntmps13
    go_wp2_with (at_builtin; go_must (refine app_bytes rfl (.tmp 22) (.tmp 25) rfl base v l rfl (Own.alloc Hown.out _) _ (some ⟨w.heap.size, 0, none⟩) 1 1 (Lib.encodeRune r) rfl Hq.out (RB.new _ _ _ _ Hc.out) Hlq.out (by simp; omega) ?_); intro v9 W9 hown9 hbel9 hg9)
    go_ret
    exact ⟨v9, rfl, hown9, ((Below.refl _ w).alloc hb _).trans hbel9, ((Lib.OthersKept.refl _ _ w).alloc _).trans (others_grown (Own.alloc Hown.out _) hg9)⟩
  · have hz := Lib.encodeRuneZ_two (r := r) h.1 h.2
    have Hc : Hid ([Value.int .u8 (bits .or .i64 192 (r / 64) % 256), .int .u8 (bits .or .i64 128 (bits .and .i64 r 63) % 256)] = bvs (Lib.encodeRune r)) := by show _ = _; rw [Hen.out, hz]; simp only [List.map_cons, List.map_nil, low63 r (by omega) (by omega), hi192 (r / 64) (by omega) (by omega)]
    have Hq : Hid (2 = (Lib.encodeRune r).length) := by show _ = _; rw [Lib.encodeRune, hz]; rfl
    have Hlq : Hid (l.length + (Lib.encodeRune r).length ≤ 140737488355327) := by show _ ≤ _; rw [← Hq.out]; omega
    have d1 : decide (r < 0) = false := by simp; omega
    have d2 : decide ((1114111 : Int) < r) = false := by simp; omega
    have d3 : decide ((55296 : Int) ≤ r) = false := by simp; omega
    have d5 : decide (r < 128) = false := by simp; omega
    have d6 : decide (r < 2048) = true := by simp; omega
    have hlo : (0 : Int) ≤ r := by omega
    have hhi : r ≤ 1114111 := by omega
    clear h h1 h2 hz
    go_enter Try.func13, Try.ntmps13
    go_wp2_with (at_builtin; go_must (refine app_bytes rfl (.tmp 30) (.tmp 39) rfl base v l rfl (Own.alloc Hown.out _) _ (some ⟨w.heap.size, 0, none⟩) 2 2 (Lib.encodeRune r) rfl Hq.out (RB.new _ _ _ _ Hc.out) Hlq.out (by simp; omega) ?_); intro v9 W9 hown9 hbel9 hg9)
    go_ret
    exact ⟨v9, rfl, hown9, ((Below.refl _ w).alloc hb _).trans hbel9, ((Lib.OthersKept.refl _ _ w).alloc _).trans (others_grown (Own.alloc Hown.out _) hg9)⟩
  · have hz := Lib.encodeRuneZ_three (r := r) (by omega)
    have Hc : Hid ([Value.int .u8 (bits .or .i64 224 (r / 4096) % 256), .int .u8 (bits .or .i64 128 (bits .and .i64 (r / 64) 63) % 256), .int .u8 (bits .or .i64 128 (bits .and .i64 r 63) % 256)] = bvs (Lib.encodeRune r)) := by show _ = _; rw [Hen.out, hz]; simp only [List.map_cons, List.map_nil, low63 r (by omega) (by omega), low63 (r / 64) (by omega) (by omega), hi224 (r / 4096) (by omega) (by omega)]
    have Hq : Hid (3 = (Lib.encodeRune r).length) := by show _ = _; rw [Lib.encodeRune, hz]; rfl
    have Hlq : Hid (l.length + (Lib.encodeRune r).length ≤ 140737488355327) := by show _ ≤ _; rw [← Hq.out]; omega
    have d1 : decide (r < 0) = false := by simp; omega
    have d2 : decide ((1114111 : Int) < r) = false := by simp; omega
    have d5 : decide (r < 128) = false := by simp; omega
    have d6 : decide (r < 2048) = false := by simp; omega
    have d7 : decide (r < 65536) = true := by simp; omega
    have hcs : decide ((55296 : Int) ≤ r) = false ∨ (decide ((55296 : Int) ≤ r) = true ∧ decide (r < 57344) = false) := by simp; omega
    have hlo : (0 : Int) ≤ r := by omega
    have hhi : r ≤ 1114111 := by omega
    clear h h1 h2 hz
    rcases hcs with d3 | ⟨d3, d4⟩
    all_goals
      go_enter Try.func13, Try.ntmps13
      go_wp2_with (at_builtin; go_must (refine app_bytes rfl (.tmp 44) (.tmp 58) rfl base v l rfl (Own.alloc Hown.out _) _ (some ⟨w.heap.size, 0, none⟩) 3 3 (Lib.encodeRune r) rfl Hq.out (RB.new _ _ _ _ Hc.out) Hlq.out (by simp; omega) ?_); intro v9 W9 hown9 hbel9 hg9)
      go_ret
      exact ⟨v9, rfl, hown9, ((Below.refl _ w).alloc hb _).trans hbel9, ((Lib.OthersKept.refl _ _ w).alloc _).trans (others_grown (Own.alloc Hown.out _) hg9)⟩
  · have hz := Lib.encodeRuneZ_four (r := r) h.1 h.2
    have Hc : Hid ([Value.int .u8 (bits .or .i64 240 (r / 262144) % 256), .int .u8 (bits .or .i64 128 (bits .and .i64 (r / 4096) 63) % 256), .int .u8 (bits .or .i64 128 (bits .and .i64 (r / 64) 63) % 256), .int .u8 (bits .or .i64 128 (bits .and .i64 r 63) % 256)] = bvs (Lib.encodeRune r)) := by show _ = _; rw [Hen.out, hz]; simp only [List.map_cons, List.map_nil, low63 r (by omega) (by omega), low63 (r / 64) (by omega) (by omega), low63 (r / 4096) (by omega) (by omega), hi240 (r / 262144) (by omega) (by omega)]
    have Hq : Hid (4 = (Lib.encodeRune r).length) := by show _ = _; rw [Lib.encodeRune, hz]; rfl
    have Hlq : Hid (l.length + (Lib.encodeRune r).length ≤ 140737488355327) := by show _ ≤ _; rw [← Hq.out]; omega
    have d1 : decide (r < 0) = false := by simp; omega
    have d2 : decide ((1114111 : Int) < r) = false := by simp; omega
    have d3 : decide ((55296 : Int) ≤ r) = true := by simp; omega
    have d4 : decide (r < 57344) = false := by simp; omega
    have d5 : decide (r < 128) = false := by simp; omega
    have d6 : decide (r < 2048) = false := by simp; omega
    have d7 : decide (r < 65536) = false := by simp; omega
    have hlo : (0 : Int) ≤ r := by omega
    have hhi : r ≤ 1114111 := by omega
    clear h h1 h2 hz
    go_enter Try.func13, Try.ntmps13
    go_wp2_with (at_builtin; go_must (refine app_bytes rfl (.tmp 60) (.tmp 79) rfl base v l rfl (Own.alloc Hown.out _) _ (some ⟨w.heap.size, 0, none⟩) 4 4 (Lib.encodeRune r) rfl Hq.out (RB.new _ _ _ _ Hc.out) Hlq.out (by simp; omega) ?_); intro v9 W9 hown9 hbel9 hg9)
    go_ret
    exact ⟨v9, rfl, hown9, ((Below.refl _ w).alloc hb _).trans hbel9, ((Lib.OthersKept.refl _ _ w).alloc _).trans (others_grown (Own.alloc Hown.out _) hg9)⟩
  · have hz := Lib.encodeRuneZ_bad (r := r) (by omega)
    have Hc : Hid ([Value.int .u8 239, .int .u8 191, .int .u8 189] = bvs (Lib.encodeRune r)) := by show _ = _; rw [Hen.out, hz]; rfl
    have Hq : Hid (3 = (Lib.encodeRune r).length) := by show _ = _; rw [Lib.encodeRune, hz]; rfl
    have Hlq : Hid (l.length + (Lib.encodeRune r).length ≤ 140737488355327) := by show _ ≤ _; rw [← Hq.out]; omega
    have hcs : decide (r < 0) = true ∨ (decide (r < 0) = false ∧ (decide ((1114111 : Int) < r) = true ∨ (decide ((1114111 : Int) < r) = false ∧ decide ((55296 : Int) ≤ r) = true ∧ decide (r < 57344) = true))) := by simp; omega
    clear h h1 h2 hz
    rcases hcs with d1 | ⟨d1, d2 | ⟨d2, d3, d4⟩⟩
    all_goals
      go_enter Try.func13, Try.ntmps13
      go_wp2_with (at_builtin; go_must (refine app_bytes rfl (.tmp 44) (.tmp 58) rfl base v l rfl (Own.alloc Hown.out _) _ (some ⟨w.heap.size, 0, none⟩) 3 3 (Lib.encodeRune r) rfl Hq.out (RB.new _ _ _ _ Hc.out) Hlq.out (by simp; omega) ?_); intro v9 W9 hown9 hbel9 hg9)
      go_ret
      exact ⟨v9, rfl, hown9, ((Below.refl _ w).alloc hb _).trans hbel9, ((Lib.OthersKept.refl _ _ w).alloc _).trans (others_grown (Own.alloc Hown.out _) hg9)⟩

/-! ### Runes as a text -/
def i32z (l : List Int) : List Value := l.map (Value.int .i32)
/-- THE TEXT of some numbers -/
def textL (l : List Int) : List UInt8 := l.flatMap Lib.encodeRune
theorem encode_eq (r : Int) : (Utf8.encode r).data.toList = Lib.encodeRune r := by
  unfold Utf8.encode Utf8.valid Lib.encodeRune Lib.encodeRuneZ
  by_cases h0 : 0 ≤ r ∧ r ≤ 127
  · obtain ⟨n, rfl⟩ := Int.eq_ofNat_of_zero_le h0.1
    have hv : ((decide (0 ≤ (n : Int)) && decide ((n : Int) < 55296)) || (decide (57344 ≤ (n : Int)) && decide ((n : Int) ≤ 1114111))) = true := by simp; omega
    rw [if_pos h0]
    simp only [hv, if_true, Int.toNat_natCast]
    rw [if_pos (by omega)]
    rfl
  · rw [if_neg h0]
    by_cases h1 : 128 ≤ r ∧ r ≤ 2047
    · obtain ⟨n, rfl⟩ := Int.eq_ofNat_of_zero_le (show 0 ≤ r by omega)
      have hv : ((decide (0 ≤ (n : Int)) && decide ((n : Int) < 55296)) || (decide (57344 ≤ (n : Int)) && decide ((n : Int) ≤ 1114111))) = true := by simp; omega
      rw [if_pos h1]
      simp only [hv, if_true, Int.toNat_natCast]
      rw [if_neg (by omega), if_pos (by omega)]
      rfl
    · rw [if_neg h1]
      by_cases h2 : (2048 ≤ r ∧ r < 55296) ∨ (57343 < r ∧ r ≤ 65535)
      · obtain ⟨n, rfl⟩ := Int.eq_ofNat_of_zero_le (show 0 ≤ r by omega)
        have hv : ((decide (0 ≤ (n : Int)) && decide ((n : Int) < 55296)) || (decide (57344 ≤ (n : Int)) && decide ((n : Int) ≤ 1114111))) = true := by simp; omega
        rw [if_pos h2]
        simp only [hv, if_true, Int.toNat_natCast]
        rw [if_neg (by omega), if_neg (by omega), if_pos (by omega)]
        rfl
      · rw [if_neg h2]
        by_cases h3 : 65536 ≤ r ∧ r ≤ 1114111
        · obtain ⟨n, rfl⟩ := Int.eq_ofNat_of_zero_le (show 0 ≤ r by omega)
          have hv : ((decide (0 ≤ (n : Int)) && decide ((n : Int) < 55296)) || (decide (57344 ≤ (n : Int)) && decide ((n : Int) ≤ 1114111))) = true := by simp; omega
          rw [if_pos h3]
          simp only [hv, if_true, Int.toNat_natCast]
          rw [if_neg (by omega), if_neg (by omega), if_neg (by omega)]
          rfl
        · rw [if_neg h3]
          have hv : ((decide (0 ≤ r) && decide (r < 55296)) || (decide (57344 ≤ r) && decide (r ≤ 1114111))) = false := by simp; omega
          simp only [hv, Bool.false_eq_true, if_false]
          rfl
theorem runes_text (zs : List Int) : runesBytes zs = ⟨(textL zs).toArray⟩ := by
  have H : ∀ (zs : List Int) (s : ByteArray), (zs.foldl (fun r n => r ++ Utf8.encode n) s).data.toList = s.data.toList ++ textL zs := by
    intro zs
    induction zs with
    | nil => intro s; simp [textL]
    | cons z zs ih =>
      intro s
      rw [List.foldl_cons, ih]
      have : (s ++ Utf8.encode z).data.toList = s.data.toList ++ Lib.encodeRune z := by rw [← encode_eq]; simp
      rw [this]
      simp [textL]
  have h := H zs ByteArray.empty
  have h' : (runesBytes zs).data.toList = textL zs := by
    unfold runesBytes
    rw [h]
    rfl
  rw [← h']

/-- the slice at A reads as the numbers zs -/
def RZ (w : World) (B : Nat) (A : Option Addr) (zs : List Int) : Prop :=
  ∀ k z, zs[k]? = some z → ∃ b o, A = some ⟨b, o, none⟩ ∧ b < B ∧ w.cell? ⟨b, o + k, none⟩ = some (.int .i32 z)
theorem RZ.below {w w' : World} {B : Nat} {A : Option Addr} {zs : List Int} (h : RZ w B A zs) (hb : Below B w w') : RZ w' B A zs := fun k z hz => by
  obtain ⟨b, o, e, hlt, hc⟩ := h k z hz
  exact ⟨b, o, e, hlt, (hb.cell (p := ⟨b, o + k, none⟩) hlt).trans hc⟩
theorem RZ.own {w : World} {base : Nat} {A : Option Addr} {c : Nat} {zs : List Int} (h : OwnV w base 21 (.slice A zs.length c) (i32z zs)) : RZ w w.heap.size A zs := fun k z hz => by
  obtain ⟨A', c', hv, _, _, hcell⟩ := h.rd
  simp only [Value.slice.injEq] at hv
  obtain ⟨rfl, -, rfl⟩ := hv
  obtain ⟨b, rfl, hb, hc⟩ := hcell k (.int .i32 z) (by rw [i32z, List.getElem?_map, hz]; rfl)
  exact ⟨b, 0, rfl, hb, by rw [Nat.zero_add]; exact hc⟩

set_option maxRecDepth 20000 in
set_option maxHeartbeats 400000 in
theorem text_any (A : Option Addr) (c : Nat) (zs : List Int) (w : World) (B : Nat) (hr : RZ w B A zs) :
    Calls Try.prog 14 #[.slice A zs.length c] w fun e w' => e = .returned (.string ⟨(textL zs).toArray⟩) ∧ w' = w := by
  have hcv : (convert 22 9 (.slice A zs.length c)).run Try.prog w = .ok (.string ⟨(textL zs).toArray⟩) w := by
    cases A with
    | none =>
      have : zs = [] := by
        cases zs with
        | nil => rfl
        | cons z zs =>
          obtain ⟨b, o, e, _⟩ := hr 0 z rfl
          cases e
      subst this
      rw [run_convert_runes_nil w _ _ _ _ _ Try.underlying22 Try.underlying21 Try.underlying9]
      rfl
    | some ad =>
      have := run_convert_runes (P := Try.prog) w 22 9 21 ad zs.length c zs (Nat.le_refl _) Try.underlying22 Try.underlying21 Try.underlying9 (fun j hj => by
        obtain ⟨b, o, e, _, hc⟩ := hr j zs[j] (List.getElem?_eq_getElem hj)
        cases e
        rw [add_flat, hc, List.getD_eq_getElem?_getD, List.getElem?_eq_getElem hj]
        rfl)
      rw [this, List.take_length, runes_text]
  clear hr
  go_enter Try.func14, Try.ntmps14
  go_wp2_with fail
  go_ret
  exact ⟨rfl, rfl⟩
end Go.Proofs.Ytlaphhldmgmbhaa
