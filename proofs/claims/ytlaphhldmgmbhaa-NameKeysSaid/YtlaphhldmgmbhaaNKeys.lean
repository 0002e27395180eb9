/-
  NameKeys, NameUnlike: whatever the texts and numbers: the calls return true.
-/
import Derived.Test.YtlaphhldmgmbhaaNKnown
import Derived.Test.YtlaphhldmgmbhaaNKey
namespace Go.Proofs.Ytlaphhldmgmbhaa
open Go.RowKit

set_option maxRecDepth 20000 in
set_option maxHeartbeats 2000000 in
theorem keys_any (s : ByteArray) (n : Nat) (k : ByteArray) (w : World) (hn : n < 18446744073709551616) : Calls Try.prog 5 #[.string s, .int .u64 (n : Int), .string k] w fun e w' => e = .returned (.bool true) ∧ Below w.heap.size w w' := by
  have Hk := Lib.hid (known_any w)
  have Hn := Lib.hid hn
  clear hn
  by_cases hbig : 32768 < s.size ∨ 32768 < k.size
  · have hb : (32768 : Int) < (s.size : Int) ∨ ((s.size : Int) ≤ 32768 ∧ (32768 : Int) < (k.size : Int)) := by omega
    clear hbig
    rcases hb with hb | ⟨hb, hb2⟩
    all_goals
      go_enter Try.func5, Try.ntmps5
      go_wp2_with fail
      refine Hk.out.mono ?_
      rintro e w1 ⟨rfl, hb1⟩
      have Hb1 := Lib.hid hb1
      clear hb1
      go_wp2_with fail
      go_ret
      exact ⟨rfl, Hb1.out⟩
  · have hb : (s.size : Int) ≤ 32768 := by omega
    have hb2 : (k.size : Int) ≤ 32768 := by omega
    have Hr := Lib.hid (fun W => rdKey_any k W (by omega))
    have Hrr := Lib.hid (fun W => refRdKey_any k W (by omega))
    have Hw := Lib.hid (fun W => key_any s n W (by omega))
    have Hww := Lib.hid (fun W => refKey_any s n W (by omega))
    have Hback := Lib.hid (rdKey_keyL s.data.toList n Hn.out)
    obtain ⟨f, hf⟩ : ∃ f : ByteArray, f = ⟨(keyL s.data.toList n).toArray⟩ := ⟨_, rfl⟩
    have hfl : f.data.toList = keyL s.data.toList n := by rw [hf]
    have hfs : f.size = s.size + 9 := by rw [Lib.size_eq, hfl, keyL_length]; rfl
    have hr2 := fun W => rdKey_any f W (by omega)
    rw [hfl, Hback.out] at hr2
    rw [Lib.mk_data] at hr2
    have Hr2 : Hid (∀ W, Calls Try.prog 19 #[.string f] W fun e w' => e = .returned (.tuple #[.string s, .int .u64 (n : Int), .int .i64 0]) ∧ Below W.heap.size W w') := hr2
    rw [← hf] at Hw Hww
    generalize rdKey k.data.toList = out at Hr Hrr
    obtain ⟨t, m, er⟩ := out
    have heq1 : ((⟨t.toArray⟩ : ByteArray).toList == (⟨t.toArray⟩ : ByteArray).toList) = true := by simp
    clear hr2 hf hfl hfs hbig
    go_enter Try.func5, Try.ntmps5
    go_wp2_with fail
    refine Hk.out.mono ?_
    rintro e w1 ⟨rfl, hb1⟩
    have Hb1 := Lib.hid hb1
    clear hb1
    go_wp2_with fail
    refine (Hr.out _).mono ?_
    rintro e w2 ⟨rfl, hb2⟩
    have Hb2 : Hid (Below w.heap.size w w2) := Hb1.out.trans (hb2.mono Hb1.out.size)
    clear hb2
    go_wp2_with fail
    refine (Hrr.out _).mono ?_
    rintro e w' ⟨rfl, rfl⟩
    go_wp2_with fail
    refine (Hw.out _).mono ?_
    rintro e w3 ⟨rfl, hb3⟩
    have Hb3 : Hid (Below w.heap.size w w3) := Hb2.out.trans (hb3.mono Hb2.out.size)
    clear hb3
    go_wp2_with fail
    refine (Hww.out _).mono ?_
    rintro e w4 ⟨rfl, hb4⟩
    have Hb4 : Hid (Below w.heap.size w w4) := Hb3.out.trans (hb4.mono Hb3.out.size)
    clear hb4
    go_wp2_with fail
    refine (Hw.out _).mono ?_
    rintro e w5 ⟨rfl, hb5⟩
    have Hb5 : Hid (Below w.heap.size w w5) := Hb4.out.trans (hb5.mono Hb4.out.size)
    clear hb5
    go_wp2_with fail
    refine (Hr2.out _).mono ?_
    rintro e w6 ⟨rfl, hb6⟩
    have Hb6 : Hid (Below w.heap.size w w6) := Hb5.out.trans (hb6.mono Hb5.out.size)
    clear hb6
    go_wp2_with fail
    go_ret
    exact ⟨rfl, Hb6.out⟩

theorem eq_text (a b : ByteArray) : (a.toList == b.toList) = decide (a = b) := by
  rw [Bool.eq_iff_iff]
  simp only [beq_iff_eq, decide_eq_true_eq]
  constructor
  · intro h
    rw [Lib.toList_data, Lib.toList_data] at h
    exact ByteArray.ext (Array.toList_inj.1 h)
  · intro h; rw [h]
theorem data_inj {a b : ByteArray} (h : a.data.toList = b.data.toList) : a = b := ByteArray.ext (Array.toList_inj.1 h)

set_option maxRecDepth 20000 in
set_option maxHeartbeats 2000000 in
theorem unlike_any (a b : ByteArray) (m n : Nat) (w : World) (hm : m < 18446744073709551616) (hn : n < 18446744073709551616) : Calls Try.prog 6 #[.string a, .string b, .int .u64 (m : Int), .int .u64 (n : Int)] w fun e w' => e = .returned (.bool true) ∧ Below w.heap.size w w' := by
  have Hk := Lib.hid (known_any w)
  have Hm := Lib.hid hm
  have Hn := Lib.hid hn
  clear hm hn
  by_cases hbig : 32768 < a.size ∨ 32768 < b.size
  · have hb : (32768 : Int) < (a.size : Int) ∨ ((a.size : Int) ≤ 32768 ∧ (32768 : Int) < (b.size : Int)) := by omega
    clear hbig
    rcases hb with hb | ⟨hb, hb2⟩
    all_goals
      go_enter Try.func6, Try.ntmps6
      go_wp2_with fail
      refine Hk.out.mono ?_
      rintro e w1 ⟨rfl, hb1⟩
      have Hb1 := Lib.hid hb1
      clear hb1
      go_wp2_with fail
      go_ret
      exact ⟨rfl, Hb1.out⟩
  · have hb : (a.size : Int) ≤ 32768 := by omega
    have hb2 : (b.size : Int) ≤ 32768 := by omega
    have Hqa := Lib.hid (fun W => quote_any a W (by omega))
    have Hqb := Lib.hid (fun W => quote_any b W (by omega))
    have Hka := Lib.hid (fun W => key_any a m W (by omega))
    have Hkb := Lib.hid (fun W => key_any b n W (by omega))
    obtain ⟨qa, hqa⟩ : ∃ q : ByteArray, q = ⟨(quoteL a.data.toList).toArray⟩ := ⟨_, rfl⟩
    obtain ⟨qb, hqb⟩ : ∃ q : ByteArray, q = ⟨(quoteL b.data.toList).toArray⟩ := ⟨_, rfl⟩
    obtain ⟨ka, hka⟩ : ∃ q : ByteArray, q = ⟨(keyL a.data.toList m).toArray⟩ := ⟨_, rfl⟩
    obtain ⟨kb, hkb⟩ : ∃ q : ByteArray, q = ⟨(keyL b.data.toList n).toArray⟩ := ⟨_, rfl⟩
    have h1 : (qa.toList == qb.toList) = (a.toList == b.toList) := by
      rw [eq_text, eq_text, Bool.eq_iff_iff]
      simp only [decide_eq_true_eq]
      constructor
      · intro h
        have h2 := congrArg (fun x : ByteArray => x.data.toList) h
        simp only [hqa, hqb] at h2
        exact data_inj (quote_inj (by simpa using h2))
      · intro h; rw [hqa, hqb, h]
    have h2 : (ka.toList == kb.toList) = ((a.toList == b.toList) && ((m : Int) == (n : Int))) := by
      rw [eq_text, eq_text, Bool.eq_iff_iff]
      simp only [decide_eq_true_eq, Bool.and_eq_true, beq_iff_eq]
      constructor
      · intro h
        have h2 := congrArg (fun x : ByteArray => x.data.toList) h
        simp only [hka, hkb] at h2
        obtain ⟨h3, h4⟩ := keyL_inj Hm.out Hn.out h2
        exact ⟨data_inj h3, by omega⟩
      · rintro ⟨h, h'⟩
        have h'' : m = n := by omega
        rw [hka, hkb, h, h'']
    rw [← hqa] at Hqa
    rw [← hqb] at Hqb
    rw [← hka] at Hka
    rw [← hkb] at Hkb
    clear hqa hqb hka hkb hbig
    cases hab : (a.toList == b.toList) <;> cases hmn : ((m : Int) == (n : Int)) <;> rw [hab] at h1 <;> rw [hab, hmn] at h2
    all_goals
      simp only [Bool.and_true, Bool.and_false] at h2
      go_enter Try.func6, Try.ntmps6
      go_wp2_with fail
      refine Hk.out.mono ?_
      rintro e w1 ⟨rfl, hb1⟩
      have Hb1 := Lib.hid hb1
      clear hb1
      go_wp2_with fail
      refine (Hqa.out _).mono ?_
      rintro e w2 ⟨rfl, hb2⟩
      have Hb2 : Hid (Below w.heap.size w w2) := Hb1.out.trans (hb2.mono Hb1.out.size)
      clear hb2
      go_wp2_with fail
      refine (Hqb.out _).mono ?_
      rintro e w3 ⟨rfl, hb3⟩
      have Hb3 : Hid (Below w.heap.size w w3) := Hb2.out.trans (hb3.mono Hb2.out.size)
      clear hb3
      go_wp2_with fail
      refine (Hka.out _).mono ?_
      rintro e w4 ⟨rfl, hb4⟩
      have Hb4 : Hid (Below w.heap.size w w4) := Hb3.out.trans (hb4.mono Hb3.out.size)
      clear hb4
      go_wp2_with fail
      refine (Hkb.out _).mono ?_
      rintro e w5 ⟨rfl, hb5⟩
      have Hb5 : Hid (Below w.heap.size w w5) := Hb4.out.trans (hb5.mono Hb4.out.size)
      clear hb5
      go_wp2_with fail
      go_ret
      exact ⟨rfl, Hb5.out⟩
end Go.Proofs.Ytlaphhldmgmbhaa
