/-
  Unquote, the program's.
-/
import Derived.Test.YtncaaiaffioegaaDoorNUnesc
import Derived.Test.YtncaaiaffioegaaDoorNWords
import Derived.Test.YtncaaiaffioegaaDoorNQuote
namespace Go.Proofs.YtncaaiaffioegaaDoor
open Go.RowKit

set_option maxRecDepth 20000 in
set_option maxHeartbeats 1000000 in
theorem unescape_any (s : ByteArray) (w : World) (hs : s.size ≤ 4294967296) (hE : Err w) :
    Calls Tryd.prog 14 #[.string s] w fun e w' => e = .returned (.string ⟨(unesc s.data.toList).toArray⟩) ∧ Below w.heap.size w w' := by
  obtain ⟨cs, hown, hmk⟩ := make_cap s.size (by omega)
  obtain ⟨R, hR⟩ : ∃ R, R = unesc s.data.toList := ⟨_, rfl⟩
  have HR := Lib.hid hR
  rw [← hR]
  have Hown := Lib.hid (hown w _ (Nat.le_refl _))
  have hs' : (s.size : Int) ≤ 4294967296 := by omega
  have HE := Lib.hid hE
  clear hR hown hE
  go_enter Tryd.func14, Tryd.ntmps14
  go_wp2_with fail
  clear hmk
  go_loopw [0, 3] (fun d v wr => ∃ (u : ByteArray) (acc : List UInt8), d = .string u ∧ u.size ≤ s.size ∧ Hid (acc.length + u.size ≤ s.size) ∧ Hid (Own wr w.heap.size v acc) ∧ Hid (Below w.heap.size w wr) ∧ Hid (R = acc ++ unesc u.data.toList)) (fun d _ _ => strSize d)
  case atStart => exact ⟨s, [], rfl, Nat.le_refl _, by show _ ≤ _; simp, Hown.out, (Below.refl _ _).alloc (Nat.le_refl _) _, HR.out⟩
  case round =>
    obtain ⟨u, acc, rfl, hu, hacc, hown, hbel, hres⟩ := hrel
    have Hsl : Hid (u.data.toList.length = u.size) := by show _ = _; rfl
    have hus : (u.size : Int) ≤ 4294967296 := by omega
    have Hsz : Hid (w.heap.size ≤ wr.heap.size) := hbel.out.size
    by_cases h0 : 0 < u.size
    · have Hun := Lib.hid (unescapeByte_any u wr h0 (HE.out.below hbel.out))
      have hne : u.data.toList ≠ [] := by intro e; rw [e] at Hsl; have := Hsl.out; simp at this; omega
      have hle := unesc1_le u.data.toList hne
      have hpos := unesc1_pos u.data.toList
      rw [Hsl.out] at hle
      have hcons := unesc_cons u.data.toList hne
      have h0' : (0 : Int) < (u.size : Int) := by omega
      generalize hx : (unesc1 u.data.toList).1 = x at Hun hcons
      generalize (unesc1 u.data.toList).2 = n at Hun hle hpos hcons
      have hle' : (n : Int) ≤ (u.size : Int) := by omega
      have Hres2 : Hid (R = (acc ++ [x]) ++ unesc (u.extract n u.size).data.toList) := by
        show _ = _
        rw [extract_tail, hres.out, hcons, List.append_assoc]
        rfl
      have hsz := extract_size u n
      have Hsz1 := Lib.hid hsz
      have Hpos := Lib.hid hpos
      have Hq : Hid ([Value.int .u8 (x.toNat : Int)] = bvs [x]) := rfl
      have Hlq : Hid (acc.length + 1 ≤ 140737488355327) := by show _ ≤ _; have := hacc.out; omega
      generalize hxn : (x.toNat : Int) = xn at Hun Hq
      clear hsz hne hcons hx hxn hpos
      go_wp2_with fail
      refine Hun.out.mono ?_
      rintro e w1 ⟨rfl, hb1⟩
      have Hown1 := Lib.hid (hown.out.below hb1)
      have Hb1 : Hid (Below w.heap.size w w1) := hbel.out.trans (hb1.mono hbel.out.size)
      have Hs1 : Hid (w.heap.size ≤ w1.heap.size) := Hb1.out.size
      clear hb1
      go_wp2_with (at_builtin; go_must (refine app_bytes rfl (.tmp 17) (.tmp 19) rfl w.heap.size _ acc rfl (Own.alloc Hown1.out _) _ (some ⟨w1.heap.size, 0, none⟩) 1 1 [x] rfl rfl (RB.new _ _ _ _ Hq.out) Hlq.out (Nat.le_trans Hs1.out (by simp)) ?_); intro v9 W9 hown9 hbel9 hg9)
      exact ⟨⟨_, acc ++ [x], rfl, by rw [Hsz1.out]; omega, by show _ ≤ _; rw [Hsz1.out, List.length_append, List.length_singleton]; have := hacc.out; have := Hpos.out; omega, hown9, (Hb1.out.alloc Hs1.out _).trans hbel9, Hres2.out⟩, by simp only [strSize]; rw [Hsz1.out]; have := Hpos.out; omega⟩
    · have h00 : u.size = 0 := by omega
      have Hfin : Hid (R = acc) := by show _ = _; rw [hres.out, nil_text' u h00]; exact List.append_nil _
      have hz : (u.size : Int) ≤ 0 := by omega
      clear h0 h00
      obtain ⟨A, c, rfl, _, hrb, _⟩ := hown.out.rb
      have hcv := text_run wr _ A acc c hrb
      clear hrb
      go_wp2_with fail
      go_ret
      exact ⟨by rw [Hfin.out]; rfl, hbel.out⟩

/-- Unquote's two answers -/
def unqVal (r : List UInt8 × Nat) : Value := .tuple #[.string ⟨r.1.toArray⟩, .int .i64 (r.2 : Int)]
set_option maxRecDepth 20000 in
set_option maxHeartbeats 1000000 in
theorem unquote_any (s : ByteArray) (w : World) (hs : s.size ≤ 4294967296) (hE : Err w) :
    Calls Tryd.prog 6 #[.string s] w fun e w' => e = .returned (unqVal (unquoteL s.data.toList)) ∧ Below w.heap.size w w' := by
  obtain ⟨R, hR⟩ : ∃ R, R = unquoteL s.data.toList := ⟨_, rfl⟩
  have HR := Lib.hid hR
  rw [← hR]
  clear hR
  have hs' : (s.size : Int) ≤ 4294967296 := by omega
  have hsl : s.data.toList.length = s.size := rfl
  by_cases h2 : s.size < 2
  · have Hv : Hid (R = ([], 24)) := by show _ = _; rw [HR.out]; exact unquote_short _ (by omega)
    have e1 : (s.size : Int) < 2 := by omega
    clear h2 hsl hs
    go_enter Tryd.func6, Tryd.ntmps6
    go_wp2_with fail
    go_ret2
    exact ⟨by rw [Hv.out]; rfl, Below.refl _ _⟩
  · have e1 : (2 : Int) ≤ (s.size : Int) := by omega
    have hin : (s.extract 1 (s.size - 1)).data.toList = inner s.data.toList := by
      rw [Lib.extract_data]
      unfold inner
      rw [show s.size - 1 - 1 = s.data.toList.length - 2 from by rw [hsl]; omega]
    have hsz : (s.extract 1 (s.size - 1)).size ≤ s.size := by
      show (s.extract 1 (s.size - 1)).data.toList.length ≤ _
      rw [Lib.extract_data, List.length_take, List.length_drop]
      omega
    have hu := unescape_any (s.extract 1 (s.size - 1)) w (by omega) hE
    rw [hin] at hu
    have hul := unesc_le (inner s.data.toList)
    rw [← hin] at hul
    have hul2 : (unesc (inner s.data.toList)).length ≤ s.size := by
      rw [← hin]
      exact Nat.le_trans hul hsz
    have Hu := Lib.hid hu
    have Hq := Lib.hid (fun W => quote_any ⟨(unesc (inner s.data.toList)).toArray⟩ W (by show (unesc (inner s.data.toList)).length ≤ _; omega))
    have hRd : R = if quoteL (unesc (inner s.data.toList)) = s.data.toList then (unesc (inner s.data.toList), 0) else ([], 24) := by rw [HR.out]; rfl
    generalize unesc (inner s.data.toList) = t at Hu Hq hRd
    have HRd := Lib.hid hRd
    clear hin hsz hu hul hul2 hRd h2 hsl hs hE
    go_enter Tryd.func6, Tryd.ntmps6
    go_wp2_with fail
    refine Hu.out.mono ?_
    rintro e w1 ⟨rfl, hb1⟩
    have Hb1 := Lib.hid hb1
    have Hq1 := Hq.out w1
    obtain ⟨q, hq⟩ : ∃ q : ByteArray, q = ⟨(quoteL t).toArray⟩ := ⟨_, rfl⟩
    rw [← hq] at Hq1
    have Hq2 := Lib.hid Hq1
    have Hqe := Lib.hid hq
    clear hb1 Hq1 Hq hq
    by_cases he : q = s
    · subst he
      have Hv : Hid (R = (t, 0)) := by show _ = _; rw [HRd.out, if_pos (by rw [Hqe.out])]
      go_wp2_with (go_at_call 8; refine Hq2.out.mono ?_; rintro e w2 ⟨rfl, hb2⟩)
      go_ret2
      exact ⟨by rw [Hv.out]; rfl, Hb1.out.trans (hb2.mono Hb1.out.size)⟩
    · have Hv : Hid (R = ([], 24)) := by
        show _ = _
        rw [HRd.out, if_neg (fun h => he (by rw [Hqe.out, h]))]
      have hne : (q.toList == s.toList) = false := by
        rw [beq_eq_false_iff_ne]
        intro h
        rw [Lib.toList_data, Lib.toList_data] at h
        exact he (ByteArray.ext (Array.toList_inj.1 h))
      go_wp2_with (go_at_call 8; refine Hq2.out.mono ?_; rintro e w2 ⟨rfl, hb2⟩)
      go_ret2
      exact ⟨by rw [Hv.out]; rfl, Hb1.out.trans (hb2.mono Hb1.out.size)⟩
end Go.Proofs.YtncaaiaffioegaaDoor
