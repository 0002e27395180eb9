/-
  FactOpens: the walk.
-/
import Derived.Test.YtghcfmkmndldoaaDoorFa57
import Derived.Test.YtghcfmkmndldoaaDoorFa58
namespace Go.Proofs.YtghcfmkmndldoaaDoor
open Go.RowKit Go.Sort Go.Lib
section
set_option maxRecDepth 100000
set_option maxHeartbeats 8000000
theorem opens_any (A : Option Addr) (c : Nat) (b : List UInt8) (lo hi : ByteArray) (w : World) (ht : Tab w) (hr : RB w w.heap.size A b) (hc : b.length ≤ c) (hl9 : b.length ≤ 9223372036854775807) :
    Calls Tryd.prog 6 #[.slice A b.length c, .string lo, .string hi] w fun e w' => e = .returned (.bool true) ∧ Below w.heap.size w w' := by
  have HK := Lib.hid (known11_any w ht)
  obtain ⟨n, hn⟩ : ∃ n, n = b.length := ⟨_, rfl⟩
  obtain ⟨er, her⟩ : ∃ er, er = (openF b).2 := ⟨_, rfl⟩
  obtain ⟨fs, hfs⟩ : ∃ fs, fs = (openF b).1 := ⟨_, rfl⟩
  have HO : Hid (b.length ≤ 65536 → ∀ W, Below w.heap.size w W → Calls Tryd.prog 30 #[.slice A n c] W fun e w' => Below w.heap.size w w' ∧ ((er ≠ 0 ∧ e = .returned (.tuple #[.pointer none, .int .i64 (er : Int)])) ∨ (er = 0 ∧ ∃ g A' c', e = .returned (.tuple #[.pointer (some ⟨g, 0, none⟩), .int .i64 (er : Int)]) ∧ TabL w' g A' c' fs))) := fun h16 W hW => by
    have hl8 : b.length ≤ 1099511627776 := by omega
    rw [hn, her, hfs]
    refine Calls.mono (open_any A c b W (ht.below hW ht.pos) ((hr.below hW).wide hW.size) hl8 hc) ?_
    rintro e w' ⟨v, rfl, ho, hb⟩
    refine ⟨hW.trans (hb.mono hW.size), ?_⟩
    by_cases h0 : (openF b).2 = 0
    · obtain ⟨g, A', c', rfl, _, hT⟩ := TabL.of_open ho h0 hl8
      exact .inr ⟨h0, g, A', c', rfl, hT⟩
    · obtain rfl := ho.1 h0
      exact .inl ⟨h0, rfl⟩
  have HR : Hid (b.length ≤ 65536 → ∀ W, Below w.heap.size w W → Calls Tryd.prog 31 #[.slice A n c] W fun e w' => ∃ A' c', e = .returned (.tuple #[.slice A' fs.length c', .int .i64 (er : Int)]) ∧ RF w' w'.heap.size A' fs ∧ Below W.heap.size W w') := fun h16 W hW => by
    have hl8 : b.length ≤ 1099511627776 := by omega
    rw [hn, her, hfs]
    refine Calls.mono (ropen_any A c b W ((hr.below hW).wide hW.size) hl8 hc) ?_
    rintro e w' ⟨A', mm, c', rfl, ho, hb⟩
    obtain ⟨A2, c2, e2, _, _, hrd, _⟩ := RowO.rd ho
    injection e2 with e3 e4 e5
    subst e3
    subst e5
    rw [e4]
    exact ⟨_, _, rfl, hrd, hb⟩
  have hn9 : (n : Int) ≤ 9223372036854775807 := by omega
  have Hn := Lib.hid hn
  have hne : ((er : Int) != (er : Int)) = false := by simp
  rw [← hn]
  obtain ⟨nf, hnf⟩ : ∃ nf, nf = fs.length := ⟨_, rfl⟩
  rw [← hnf] at HR
  have Hnf := Lib.hid hnf
  clear hnf hn her hfs ht hr hc hl9
  go_enter Tryd.func6, Tryd.ntmps6
  go_wp2_with fail
  refine HK.out.mono ?_
  rintro e w1 ⟨rfl, hb1⟩
  have H1 := Lib.hid hb1
  clear hb1 HK
  obtain ⟨z, hz⟩ : ∃ z, wrap64 ((lo.size : Int) + (hi.size : Int)) = z := ⟨_, rfl⟩
  by_cases hg1 : (65536 : Int) < (n : Int)
  · go_wp2_with fail
    go_ret
    exact ⟨rfl, H1.out⟩
  by_cases hg2 : (5000 : Int) < z
  · go_wp2_with fail
    go_ret
    exact ⟨rfl, H1.out⟩
  have h16 : b.length ≤ 65536 := by have := Hn.out; omega
  have HO := Lib.hid (HO.out h16)
  have HR := Lib.hid (HR.out h16)
  clear h16
  go_wp2_with fail
  refine (HO.out w1 H1.out).mono ?_
  rintro e w2 ⟨hb2, hres⟩
  have HR2 := Lib.hid (HR.out w2 hb2)
  have H2 := Lib.hid hb2
  clear hb2 HR HO H1 hz hg1 hg2
  rcases hres with ⟨h0, rfl⟩ | ⟨rfl, g, A2, c2, rfl, hT⟩
  · have h0' : ((er : Int) == 0) = false := by simp; omega
    go_wp2_with fail
    refine HR2.out.mono ?_
    rintro e w3 ⟨A3, c3, rfl, _, hb3⟩
    have H3 : Hid (Below w.heap.size w w3) := H2.out.trans (hb3.mono H2.out.size)
    clear hb3 HR2 H2
    go_wp2_with fail
    go_ret
    exact ⟨rfl, H3.out⟩
  · have HT := Lib.hid hT
    clear hT
    go_wp2_with fail
    refine HR2.out.mono ?_
    rintro e w3 ⟨A3, c3, rfl, hr3, hb3⟩
    have HL := Lib.hid (looks_any g A2 A3 c2 c3 fs lo hi w3 (HT.out.below hb3) hr3)
    rw [← Hnf.out] at HL
    have H3 : Hid (Below w.heap.size w w3) := H2.out.trans (hb3.mono H2.out.size)
    clear hb3 hr3 HR2 H2 HT
    go_wp2_with fail
    refine HL.out.mono ?_
    rintro e w4 ⟨rfl, hb4⟩
    have H4 : Hid (Below w.heap.size w w4) := H3.out.trans (hb4.mono H3.out.size)
    clear hb4 HL H3
    go_wp2_with fail
    go_ret
    exact ⟨rfl, H4.out⟩
end
end Go.Proofs.YtghcfmkmndldoaaDoor
