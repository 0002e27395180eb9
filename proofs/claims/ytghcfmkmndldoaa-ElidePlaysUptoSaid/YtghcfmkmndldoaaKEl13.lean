/-
  The law's few, same, known.
-/
import Derived.Test.YtghcfmkmndldoaaKEl9
import Derived.Laws.CopyOwn
namespace Go.Proofs.Ytghcfmkmndldoaa
open Go.RowKit Go.Sort Go.Lib

def sumE (es : List Ec) : Nat := (es.map fun e => e.1.size + e.2.1.size).sum
theorem sumE_append (a b : List Ec) : sumE (a ++ b) = sumE a + sumE b := by simp [sumE]
theorem sumE_take {es : List Ec} {i : Nat} {e : Ec} (h : es[i]? = some e) : sumE (es.take (i + 1)) = sumE (es.take i) + (e.1.size + e.2.1.size) := by
  rw [List.take_add_one, h, sumE_append]
  simp [sumE]
theorem sumE_le (es : List Ec) (i : Nat) : sumE (es.take i) ≤ sumE es := by
  have := sumE_append (es.take i) (es.drop i)
  rw [List.take_append_drop] at this
  omega
theorem take_eqE {a b : List Ec} {i : Nat} {x : Ec} (h : a.take i = b.take i) (ha : a[i]? = some x) (hb : b[i]? = some x) : a.take (i + 1) = b.take (i + 1) := by
  rw [List.take_add_one, List.take_add_one, h, ha, hb]
/-- the chapter's example -/
def kA : ByteArray := ⟨#[97]⟩
def kC : ByteArray := ⟨#[99]⟩
def kD : ByteArray := ⟨#[100]⟩
def kF : ByteArray := ⟨#[102]⟩
def kM : ByteArray := ⟨#[109]⟩
def exE : List Ec := [(kA, kM, 5), (kC, kF, 9)]
def exP : List Ec := [(kA, kC, 5), (kC, kF, 9), (kF, kM, 5)]
theorem ex_lt : kl kA kC ∧ kl kC kF ∧ kl kF kM ∧ kl kC kD ∧ kl kD kF ∧ kl kA kM := by
  unfold kl kA kC kD kF kM
  simp only [list_of_array]
  decide
theorem ex_plain : PlainE exP := by
  obtain ⟨h1, h2, h3, _, _, _⟩ := ex_lt
  refine ⟨fun e he => ?_, ?_⟩
  · unfold exP at he
    simp only [List.mem_cons, List.not_mem_nil, or_false] at he
    rcases he with rfl | rfl | rfl
    · exact h1
    · exact h2
    · exact h3
  · unfold exP
    simp only [List.pairwise_cons, List.mem_cons, List.not_mem_nil, or_false, List.Pairwise.nil, and_true, forall_eq_or_imp, forall_eq]
    exact ⟨⟨⟨ke_refl _, fun _ => by decide⟩, ⟨h2.ke, fun e => absurd e (kl_ne h2)⟩⟩, ⟨ke_refl _, fun _ => by decide⟩, fun _ h => by cases h⟩
theorem ex_top (j : ByteArray) : topE exP j = topE exE j := by
  obtain ⟨h1, h2, h3, _, _, _⟩ := ex_lt
  have p1 : Op.bytesLess j.toList kA.toList = true → Op.bytesLess j.toList kC.toList = true := fun q => less_trans _ _ _ q h1
  have p2 : Op.bytesLess j.toList kC.toList = true → Op.bytesLess j.toList kF.toList = true := fun q => less_trans _ _ _ q h2
  have p3 : Op.bytesLess j.toList kF.toList = true → Op.bytesLess j.toList kM.toList = true := fun q => less_trans _ _ _ q h3
  unfold exP exE
  simp only [topE, covE]
  rcases Bool.eq_false_or_eq_true (Op.bytesLess j.toList kA.toList) with ha | ha <;> rcases Bool.eq_false_or_eq_true (Op.bytesLess j.toList kC.toList) with hc | hc <;> rcases Bool.eq_false_or_eq_true (Op.bytesLess j.toList kF.toList) with hf | hf <;> rcases Bool.eq_false_or_eq_true (Op.bytesLess j.toList kM.toList) with hm | hm <;> simp [ha, hc, hf, hm] at p1 p2 p3 ⊢
theorem neqE_any (e f : Ec) (w : World) : (binOp .neq 32 (eV e) (eV f)).run Try.prog w = .ok (.bool (!decide (e = f))) w := by
  obtain ⟨a, b, c⟩ := e
  obtain ⟨x, y, z⟩ := f
  unfold eV
  simp only [Prod.mk.injEq]
  by_cases h1 : a.toList = x.toList
  · have := array_inj h1
    subst this
    by_cases h2 : b.toList = y.toList
    · have := array_inj h2
      subst this
      by_cases h3 : c = z
      · subst h3
        simp [go_sem]
      · have h4 : ¬ (c : Int) = (z : Int) := by omega
        simp [go_sem, h3, h4]
    · have h5 : ¬ b = y := fun e => h2 (by rw [e])
      simp [go_sem, h2, h5]
  · have h5 : ¬ a = x := fun e => h1 (by rw [e])
    simp [go_sem, h1, h5]
section
set_option maxRecDepth 100000
set_option maxHeartbeats 4000000
theorem fewE_any (A : Option Addr) (c : Nat) (es : List Ec) (w : World) (hl : es.length ≤ 1099511627776) (hs : sumE es ≤ 4611686018427387904) (hr : RE w w.heap.size A es) :
    Calls Try.prog 8 #[.slice A es.length c] w fun e w' => e = .returned (.bool (decide (es.length ≤ 120) && decide (sumE es ≤ 16384))) ∧ Below w.heap.size w w' := by
  have Hr := Lib.hid hr
  have hl' : ((es.length : Nat) : Int) ≤ 1099511627776 := by omega
  have Hlen : Hid (∀ k : Nat, k < es.length → ∃ u, es[k]? = some u) := fun k hk => ⟨_, List.getElem?_eq_getElem hk⟩
  obtain ⟨n, hn⟩ : ∃ n, n = es.length := ⟨_, rfl⟩
  rw [← hn] at hl' Hlen ⊢
  have Hn := Lib.hid hn
  have Hs := Lib.hid hs
  obtain ⟨sf, hsf⟩ : ∃ sf, sf = sumE es := ⟨_, rfl⟩
  rw [← hsf] at Hs ⊢
  have Hsf := Lib.hid hsf
  clear hr hl hn hs hsf
  go_enter Try.func8, Try.ntmps8
  go_wp2_with fail
  go_loopw [3, 4] (fun tv iv wr => ∃ i : Nat, iv = .int .i64 (i : Int) ∧ i ≤ n ∧ tv = .int .i64 ((sumE (es.take i) : Nat) : Int) ∧ Hid (Below w.heap.size w wr)) (fun _ iv _ => n - (intOf iv).toNat)
  case atStart => exact ⟨0, rfl, Nat.zero_le _, rfl, Below.refl _ _⟩
  case round =>
    obtain ⟨i, rfl, hi, rfl, hg⟩ := hrel
    by_cases hlt : i < n
    · obtain ⟨f, hf⟩ := Hlen.out i hlt
      obtain ⟨b, o, rfl, hblt, c0, c1, c2⟩ := (Hr.out.below hg.out) i f hf
      have hlt' : (i : Int) < (n : Int) := by omega
      have ht := sumE_take hf
      have hle := sumE_le es (i + 1)
      rw [← Hsf.out] at hle
      obtain ⟨k, x, s⟩ := f
      dsimp only at c0 c1 c2 ht
      generalize sumE (es.take i) = tt at *
      have hw1 : IntKind.i64.wrap ((tt : Int) + (k.size : Int)) = (tt : Int) + (k.size : Int) := by rw [IntKind.wrap_i64]; have := Hs.out; omega
      have hw2 : IntKind.i64.wrap ((tt : Int) + (k.size : Int) + (x.size : Int)) = (tt : Int) + (k.size : Int) + (x.size : Int) := by rw [IntKind.wrap_i64]; have := Hs.out; omega
      have Ht : Hid ((tt : Int) + (k.size : Int) + (x.size : Int) = ((sumE (es.take (i + 1)) : Nat) : Int)) := by show _ = _; rw [ht]; omega
      have Hg := hg
      clear hf hg hlt Hlen ht hle c2
      go_upto_region 5 with fail
      go_quiet (fail)
      go_wp2_with fail
      go_roundw
      case rel => exact ⟨i + 1, by go_num, by omega, by rw [Ht.out], below_dr Hg.out nq⟩
      case measure => simp [intOf]; omega
    · obtain rfl : i = n := by omega
      have ht : sumE (es.take i) = sf := by rw [Hsf.out, Hn.out, List.take_of_length_le (Nat.le_refl _)]
      rw [ht]
      have Hg := hg
      clear hg ht
      by_cases hm : i ≤ 120
      · have hm' : (i : Int) ≤ 120 := by omega
        by_cases hs : sf ≤ 16384
        · have hs' : (sf : Int) ≤ 16384 := by omega
          go_wp2_with fail
          go_ret
          exact ⟨by simp [hm, hs], Hg.out⟩
        · have hs' : ¬ (sf : Int) ≤ 16384 := by omega
          go_wp2_with fail
          go_ret
          exact ⟨by simp [hm, hs], Hg.out⟩
      · have hm' : ¬ (i : Int) ≤ 120 := by omega
        go_wp2_with fail
        go_ret
        exact ⟨by first | rfl | simp [hm], Hg.out⟩
theorem sameE_any (A1 A2 : Option Addr) (c1 c2 : Nat) (xs ys : List Ec) (w : World) (hl : xs.length ≤ 1099511627776) (hl2 : ys.length ≤ 1099511627776) (h1 : RE w w.heap.size A1 xs) (h2 : RE w w.heap.size A2 ys) :
    Calls Try.prog 16 #[.slice A1 xs.length c1, .slice A2 ys.length c2] w fun e w' => e = .returned (.bool (decide (xs = ys))) ∧ Below w.heap.size w w' := by
  by_cases hne : xs.length = ys.length
  · have H1 := Lib.hid h1
    have H2 := Lib.hid h2
    have hl' : ((xs.length : Nat) : Int) ≤ 1099511627776 := by omega
    have Hlen : Hid (∀ k : Nat, k < xs.length → ∃ u v, xs[k]? = some u ∧ ys[k]? = some v) := fun k hk => ⟨_, _, List.getElem?_eq_getElem hk, List.getElem?_eq_getElem (by omega)⟩
    rw [← hne]
    have Hne := Lib.hid hne
    obtain ⟨n, hn⟩ : ∃ n, n = xs.length := ⟨_, rfl⟩
    rw [← hn] at hl' Hlen ⊢
    have Hn := Lib.hid hn
    obtain ⟨dv, hdv⟩ : ∃ dv, dv = decide (xs = ys) := ⟨_, rfl⟩
    rw [← hdv]
    have Hdv := Lib.hid hdv
    have hnn : ((n : Int) != (n : Int)) = false := by simp
    clear h1 h2 hl hl2 hn hne hdv
    go_enter Try.func16, Try.ntmps16
    go_wp2_with fail
    go_loopw [5] (fun iv wr => ∃ i : Nat, iv = .int .i64 (i : Int) ∧ i ≤ n ∧ Hid (xs.take i = ys.take i) ∧ Hid (Below w.heap.size w wr)) (fun iv _ => n - (intOf iv).toNat)
    case atStart => exact ⟨0, rfl, Nat.zero_le _, rfl, Below.refl _ w⟩
    case round =>
      obtain ⟨i, rfl, hi, hall, hg⟩ := hrel
      by_cases hlt : i < n
      · obtain ⟨a, b, ha, hb⟩ := Hlen.out i hlt
        obtain ⟨bk, o, rfl, hblt, a0, a1, a2⟩ := (H1.out.below hg.out) i a ha
        obtain ⟨bk2, o2, rfl, hblt2, b0, b1, b2⟩ := (H2.out.below hg.out) i b hb
        have hlt' : (i : Int) < (n : Int) := by omega
        have hq := fun W => neqE_any a b W
        unfold eV at hq
        by_cases hab : a = b
        · subst hab
          rw [decide_eq_true rfl] at hq
          have Ha : Hid (xs.take (i + 1) = ys.take (i + 1)) := take_eqE hall.out ha hb
          clear ha hb hall hlt Hlen H1 H2 hnn
          go_upto_region 6 with fail
          go_quiet (fail)
          go_wp2_with fail
          go_roundw
          case rel => exact ⟨i + 1, by go_num, by omega, Ha, below_dr hg.out nq⟩
          case measure => simp [intOf]; omega
        · rw [decide_eq_false hab] at hq
          obtain rfl : dv = false := by
            rw [Hdv.out]
            exact decide_eq_false fun e => by rw [e, hb] at ha; exact hab (Option.some.inj ha).symm
          clear ha hb hall hlt Hlen H1 H2 hnn hab
          go_upto_region 6 with fail
          go_quiet (fail)
          go_wp2_with fail
          go_ret
          exact ⟨rfl, below_dr hg.out nq⟩
      · obtain rfl : i = n := by omega
        obtain rfl : dv = true := by
          rw [Hdv.out]
          have := hall.out
          rw [List.take_of_length_le (by have := Hn.out; omega), List.take_of_length_le (by have := Hn.out; have := Hne.out; omega)] at this
          exact decide_eq_true this
        clear hall hlt
        go_wp2_with fail
        go_ret
        exact ⟨rfl, hg.out⟩
  · have hq : ((xs.length : Int) != (ys.length : Int)) = true := by simp; omega
    have hd : decide (xs = ys) = false := decide_eq_false fun e => hne (by rw [e])
    rw [hd]
    clear hd
    go_enter Try.func16, Try.ntmps16
    go_wp2_with fail
    go_ret
    exact ⟨rfl, Below.refl _ _⟩
end
end Go.Proofs.Ytghcfmkmndldoaa

/-
  The law's known: the chapter's example.
-/
namespace Go.Proofs.Ytghcfmkmndldoaa
open Go.RowKit Go.Sort Go.Lib

theorem ex_d : topE exP kD = 10 := by
  unfold exP kA kC kD kF kM
  simp only [topE, covE, list_of_array]
  decide
theorem ex_m : topE exP kM = 0 := by
  unfold exP kA kC kF kM
  simp only [topE, covE, list_of_array]
  decide
theorem ex_ok : okAll exE = true := by
  obtain ⟨_, h2, _, _, _, h6⟩ := ex_lt
  refine okAll_iff.2 fun e he => ?_
  unfold exE at he
  simp only [List.mem_cons, List.not_mem_nil, or_false] at he
  rcases he with rfl | rfl
  · exact h6
  · exact h2
section
set_option maxRecDepth 100000
set_option maxHeartbeats 4000000
theorem known_any (w : World) : Calls Try.prog 7 #[] w fun r w' => r = .returned (.bool true) ∧ Below w.heap.size w w' := by
  obtain ⟨W1, hW1⟩ : ∃ W1, W1 = w.alloc (.cells #[.string ⟨#[97]⟩, .string ⟨#[109]⟩, .int .u64 5, .string ⟨#[99]⟩, .string ⟨#[102]⟩, .int .u64 9] 32) := ⟨_, rfl⟩
  have hb1 : Below w.heap.size w W1 := by rw [hW1]; exact (Below.refl _ _).alloc (Nat.le_refl _) _
  have hC : Cells W1 w.heap.size 32 [.string ⟨#[97]⟩, .string ⟨#[109]⟩, .int .u64 5, .string ⟨#[99]⟩, .string ⟨#[102]⟩, .int .u64 9] := by rw [hW1]; exact Cells.new w _ _
  have hR : RE W1 W1.heap.size (some ⟨w.heap.size, 0, none⟩) exE := by
    intro k p hk
    have hk2 : k < 2 := (List.getElem?_eq_some_iff.1 hk).1
    rcases (by omega : k = 0 ∨ k = 1) with rfl | rfl
    · cases hk
      exact ⟨_, 0, rfl, hC.lt, hC.cell (i := 0) rfl, hC.cell (i := 1) rfl, hC.cell (i := 2) rfl⟩
    · cases hk
      exact ⟨_, 0, rfl, hC.lt, hC.cell (i := 3) rfl, hC.cell (i := 4) rfl, hC.cell (i := 5) rfl⟩
  have HN : Hid (Calls Try.prog 10 #[.slice (some ⟨w.heap.size, 0, none⟩) 2 2] W1 fun r w' => ∃ g, r = .returned (.tuple #[.pointer (some ⟨g, 0, none⟩), .int .i64 0]) ∧ Hid (SetAt w' W1.heap.size g exP ∧ Below w.heap.size w w')) := by
    refine (new_any (some ⟨w.heap.size, 0, none⟩) 2 exE W1 hR (by decide) (by decide)).mono ?_
    rintro r w' ⟨hb, ⟨_, g, out, rfl, hs, ht, _⟩ | ⟨hno, _⟩⟩
    · have e : out = exP := plain_ext hs.plain ex_plain fun j => by rw [ht, ex_top]
      subst e
      exact ⟨g, rfl, hs, hb1.trans (hb.mono hb1.size)⟩
    · rw [ex_ok] at hno; cases hno
  have HH : Hid (∀ (g base : Nat) (W0 W : World), SetAt W0 base g exP → Below W0.heap.size W0 W → Calls Try.prog 20 #[.pointer (some ⟨g, 0, none⟩), .string ⟨#[100]⟩, .int .u64 9] W fun r w' => r = .returned (.bool true) ∧ Below W0.heap.size W0 w') := fun g base W0 W h hW => by
    have := has_any g base exP kD 9 W (h.below hW)
    rw [ex_d] at this
    refine this.mono ?_
    rintro r w' ⟨rfl, hb⟩
    exact ⟨rfl, hW.trans (hb.mono hW.size)⟩
  have HH2 : Hid (∀ (g base : Nat) (W0 W : World), SetAt W0 base g exP → Below W0.heap.size W0 W → Calls Try.prog 20 #[.pointer (some ⟨g, 0, none⟩), .string ⟨#[100]⟩, .int .u64 10] W fun r w' => r = .returned (.bool false) ∧ Below W0.heap.size W0 w') := fun g base W0 W h hW => by
    have := has_any g base exP kD 10 W (h.below hW)
    rw [ex_d] at this
    refine this.mono ?_
    rintro r w' ⟨rfl, hb⟩
    exact ⟨rfl, hW.trans (hb.mono hW.size)⟩
  have HH3 : Hid (∀ (g base : Nat) (W0 W : World), SetAt W0 base g exP → Below W0.heap.size W0 W → Calls Try.prog 20 #[.pointer (some ⟨g, 0, none⟩), .string ⟨#[109]⟩, .int .u64 1] W fun r w' => r = .returned (.bool false) ∧ Below W0.heap.size W0 w') := fun g base W0 W h hW => by
    have := has_any g base exP kM 1 W (h.below hW)
    rw [ex_m] at this
    refine this.mono ?_
    rintro r w' ⟨rfl, hb⟩
    exact ⟨rfl, hW.trans (hb.mono hW.size)⟩
  clear hb1 hC hR
  go_enter Try.func7, Try.ntmps7
  go_wp2_with fail
  rw [← hW1]
  clear hW1
  refine HN.out.mono ?_
  rintro r w2 ⟨g, rfl, H2⟩
  have HL := Lib.hid (list_any g W1.heap.size exP w2 H2.out.1)
  clear HN
  go_wp2_with fail
  refine HL.out.mono ?_
  rintro r w3 ⟨v, rfl, ho, hb3⟩
  obtain ⟨A, c, rfl, hc, _, hr, _, hfl⟩ := ho.rd
  obtain ⟨b, o, rfl, _, x0, x1, x2⟩ := hr 1 (kC, kF, 9) rfl
  obtain ⟨b', o', e', _, y0, y1, y2⟩ := hr 2 (kF, kM, 5) rfl
  cases e'
  obtain ⟨b', eb, _⟩ := hfl _ rfl
  cases eb
  have hq1 := fun W => eqlE_any (kC, kF, 9) (kC, kF, 9) W
  have hq2 := fun W => eqlE_any (kF, kM, 5) (kF, kM, 5) W
  rw [decide_eq_true rfl] at hq1 hq2
  have H3 : Hid (SetAt w3 W1.heap.size g exP ∧ Below w.heap.size w w3) := ⟨H2.out.1.below hb3, H2.out.2.trans (hb3.mono H2.out.2.size)⟩
  have HA := Lib.hid (HH.out g W1.heap.size w3 w3 H3.out.1 (Below.refl _ _))
  unfold eV at hq1 hq2
  unfold kC kF at hq1
  unfold kF kM at hq2
  dsimp only at hq1 hq2 x0 x1 x2 y0 y1 y2
  unfold kC at x0
  unfold kF at x1 y0
  unfold kM at y1
  clear ho hb3 hr hfl HL H2 hc HH
  rw [show exP.length = 3 from rfl]
  go_wp2_with fail
  refine HA.out.mono ?_
  rintro r w4 ⟨rfl, hb4⟩
  have HB := Lib.hid (HH2.out g W1.heap.size w3 w4 H3.out.1 hb4)
  clear hb4 HA HH2
  go_wp2_with fail
  refine HB.out.mono ?_
  rintro r w5 ⟨rfl, hb5⟩
  have HD := Lib.hid (HH3.out g W1.heap.size w3 w5 H3.out.1 hb5)
  clear hb5 HB HH3
  go_wp2_with fail
  refine HD.out.mono ?_
  rintro r w6 ⟨rfl, hb6⟩
  have H6 : Hid (Below w.heap.size w w6) := H3.out.2.trans (hb6.mono H3.out.2.size)
  clear hb6 HD H3
  go_wp2_with fail
  go_ret
  exact ⟨rfl, H6.out⟩
end
end Go.Proofs.Ytghcfmkmndldoaa

/-
  A row of elisions turned in place: copy and clear within the call's own block.
-/
namespace Go.Proofs.Ytghcfmkmndldoaa
open Go.RowKit Go.Sort Go.Lib

/-- THE BLOCK g has room for c elisions; its cells are L -/
structure RowAt (w : World) (g c : Nat) (L : List Value) : Prop where
  at_ : w.heap[g]? = some (.cells L.toArray 32 (0, 0))
  len : L.length = c * 3
section
variable {w w' : World} {g c n base : Nat} {L : List Value} {es fs : List Ec} {A : Option Addr} {B : Nat}
theorem RowAt.lt (h : RowAt w g c L) : g < w.heap.size := (Array.getElem?_eq_some_iff.1 h.at_).1
theorem RowAt.move (h : RowAt w g c L) (hk : w'.heap[g]? = w.heap[g]?) : RowAt w' g c L := ⟨hk.trans h.at_, h.len⟩
theorem RowAt.below (h : RowAt w g c L) (hb : Below w.heap.size w w') : RowAt w' g c L := h.move (hb.block g h.lt)
theorem RowAt.drew (h : RowAt w g c L) (k : Nat) : RowAt (w.drewN k) g c L := ⟨h.at_, h.len⟩
/-- an owned slice that has a block -/
theorem OwnE.row (h : OwnE w base (.slice (some ⟨g, 0, none⟩) n c) es) : ∃ L, RowAt w g c L ∧ L.take (n * 3) = cellsE es ∧ base ≤ g ∧ n ≤ c ∧ c ≤ maxLen ∧ n = es.length := by
  have hl := h.1
  rw [cellsE_length] at hl
  rcases h.2 with ⟨hv, _⟩ | ⟨g', cap, cur, hv, hb, hg, h1, h2, h3, h4⟩
  · cases hv
  · injection hv with e1 e2 e3
    injection e1 with e1
    injection e1 with e1
    subst e1
    exact ⟨cur.toList, ⟨by simpa using hg, by rw [Array.length_toList, h3, e3]⟩, by rw [e2]; exact h4, hb, by rw [e2, e3]; exact h1, by rw [e3]; exact h2, e2⟩
theorem OwnE.of_row (h : RowAt w g c L) (ht : L.take (es.length * 3) = cellsE es) (hb : base ≤ g) (hn : es.length ≤ c) (hm : c ≤ maxLen) : OwnE w base (.slice (some ⟨g, 0, none⟩) es.length c) es :=
  ⟨cellsE_length es, .inr ⟨g, c, L.toArray, rfl, hb, h.at_, hn, hm, by rw [List.size_toArray]; exact h.len, by simpa using ht⟩⟩
/-- the row's cells, read -/
theorem RowAt.cell (h : RowAt w g c L) {j : Nat} {v : Value} (hj : L[j]? = some v) : w.cell? ⟨g, j, none⟩ = some v := by
  unfold World.cell?
  rw [h.at_]
  simpa using hj
/-- cells of a read slice of elisions -/
theorem RE.cells (h : RE w B A fs) (k : Nat) {ad : Addr} (hA : A = some ad) : ∀ j v, (cellsE (fs.take k))[j]? = some v → w.cell? (ad.add j) = some v := fun j v hj => by
  obtain ⟨i, p, hi, q⟩ := cellsE_at _ hj
  rw [List.getElem?_take] at hi
  split at hi
  · obtain ⟨b, o, e, _, c0, c1, c2⟩ := h i p hi
    rw [hA] at e
    cases e
    rw [add_flat]
    rcases q with ⟨rfl, rfl⟩ | ⟨rfl, rfl⟩ | ⟨rfl, rfl⟩
    · exact c0
    · exact c1
    · exact c2
  · cases hi
/-- copy(row[i:], what reads as cs), as a run -/
theorem copy_row_run (ty : TypeId) (h : RowAt w g c L) (i dl dc : Nat) (sp : Option Addr) (sl sc : Nat) (cs : List Value) (hn : cs.length = Nat.min sl dl * 3) (hpos : 0 < cs.length → ∃ ad, sp = some ad ∧ ∀ j v, cs[j]? = some v → w.cell? (ad.add j) = some v)
    (dp : Option Addr) (hd : 0 < cs.length → dp = some ⟨g, i * 3, none⟩) (hfit : i * 3 + cs.length ≤ L.length) (h1 : ∀ v ∈ cs, v.oneCell' = true) :
    ∃ w', (Builtin.copy_ #[22, 22] ty #[.slice dp dl dc, .slice sp sl sc]).run Try.prog w = .ok (goInt (Nat.min sl dl)) w' ∧ RowAt w' g c (splice L (i * 3) cs) ∧ Kept (fun k => k ≠ g) w w' := by
  obtain ⟨i0, hi0, hz0, hz1, hz2⟩ := info_parts info_elision
  by_cases h0 : cs.length = 0
  · obtain rfl : cs = [] := List.eq_nil_of_length_eq_zero h0
    have hm : Nat.min sl dl = 0 := by simp at hn; omega
    refine ⟨w, ?_, ⟨by simpa [splice] using h.at_, by simpa [splice] using h.len⟩, Kept.refl _ _⟩
    rw [hm]
    cases dp <;> cases sp <;> simp [Builtin.copy_, run_underlying Try.underlying22, sizeOf, typeInfo, hi0, hz1, Builtin.lenOf, Builtin.firstCells, hm, storeCells, loadCells, loadCellsFrom]
  · obtain ⟨ad, rfl, hsrc⟩ := hpos (by omega)
    obtain rfl := hd (by omega)
    have hl := run_loadCells_list (P := Try.prog) w ad cs hsrc
    have hst := run_storeCells_at Try.prog g (i * 3) 32 cs 0 L.toArray w h.at_ (by simpa using hfit) h1
    refine ⟨w.setRow g (splice L (i * 3) cs).toArray, ?_, ⟨setRow_heap w g _ _ _ _ h.at_, by rw [length_splice _ _ _ hfit]; exact h.len⟩, ⟨rfl, rfl, rfl, by simp [World.setRow], fun k _ hk => setRow_other w g k _ hk⟩⟩
    have e : (splice L (i * 3) cs).toArray = (L.toArray.toList.take (i * 3 + 0) ++ cs ++ L.toArray.toList.drop (i * 3 + 0 + cs.length)).toArray := by simp [splice]
    rw [e]
    simp [Builtin.copy_, run_underlying Try.underlying22, Builtin.lenOf, Builtin.firstCells, sizeOf, typeInfo, hi0, hz1, ← hn, hl, hst] <;> rfl
/-- clear(row[i:..k elisions]), as a run -/
theorem clear_row_run (ty : TypeId) (h : RowAt w g c L) (i k kc : Nat) (hfit : i + k ≤ c) (dp : Option Addr) (hd : 0 < k → dp = some ⟨g, i * 3, none⟩) :
    ∃ v w' Z, (Builtin.clear_ #[22] ty #[.slice dp k kc]).run Try.prog w = .ok v w' ∧ RowAt w' g c (splice L (i * 3) Z) ∧ Z.length = k * 3 ∧ Kept (fun k => k ≠ g) w w' := by
  obtain ⟨i0, hi0, hz0, hz1, hz2⟩ := info_parts info_elision
  by_cases h0 : k = 0
  · subst h0
    refine ⟨.tuple #[], w, [], ?_, ⟨by simpa [splice] using h.at_, by simpa [splice] using h.len⟩, rfl, Kept.refl _ _⟩
    cases dp <;> simp [Builtin.clear_, run_underlying Try.underlying22]
  · obtain rfl := hd (by omega)
    obtain ⟨Z, hZ⟩ : ∃ Z, Z = (Builtin.zeroCells (Value.agg #[.string ⟨#[]⟩, .string ⟨#[]⟩, .int .u64 0]).cells k).toList := ⟨_, rfl⟩
    have hzl : Z.length = k * 3 := by rw [hZ, Array.length_toList, size_zeroCells]; rfl
    have hl3 := h.len
    have hfit3 : i * 3 + Z.length ≤ L.length := by omega
    have hone : ∀ v ∈ Z, v.oneCell' = true := fun v hv => by
      rw [hZ] at hv
      have hv' : v ∈ Builtin.zeroCells (Value.agg #[.string ⟨#[]⟩, .string ⟨#[]⟩, .int .u64 0]).cells k := by simpa using hv
      unfold Builtin.zeroCells at hv'
      simp [Value.cells] at hv'
      obtain ⟨a, _, q⟩ := hv'
      have ha : a % 3 = 0 ∨ a % 3 = 1 ∨ a % 3 = 2 := by omega
      rcases ha with ha | ha | ha <;> rw [ha] at q <;> rw [← q] <;> rfl
    have hst := run_storeCells_at Try.prog g (i * 3) 32 Z 0 L.toArray w h.at_ (by simpa using hfit3) hone
    refine ⟨.tuple #[], w.setRow g (splice L (i * 3) Z).toArray, Z, ?_, ⟨setRow_heap w g _ _ _ _ h.at_, by rw [length_splice _ _ _ hfit3]; exact h.len⟩, hzl, ⟨rfl, rfl, rfl, by simp [World.setRow], fun k _ hk => setRow_other w g k _ hk⟩⟩
    have e : (splice L (i * 3) Z).toArray = (L.toArray.toList.take (i * 3 + 0) ++ Z ++ L.toArray.toList.drop (i * 3 + 0 + Z.length)).toArray := by simp [splice]
    rw [e]
    rw [hZ] at hst ⊢
    have hk1 : k ≠ 0 := h0
    simp [Builtin.clear_, run_underlying Try.underlying22, zeroValue, typeInfo, hi0, hz0, hk1, hst]
/-- what a splice leaves -/
theorem splice_take {L cs : List Value} {o k : Nat} (h : k ≤ o) (ho : o ≤ L.length) : (splice L o cs).take k = L.take k := by
  unfold splice
  rw [List.take_append_of_le_length (by rw [List.length_take]; omega), List.take_take, Nat.min_eq_left h]
/-- what stands up to a splice's end -/
theorem splice_upto {L cs : List Value} {o k : Nat} (hk : k = o + cs.length) (ho : o ≤ L.length) : (splice L o cs).take k = L.take o ++ cs := by
  unfold splice
  rw [hk, ← List.append_assoc, List.take_append_of_le_length (by rw [List.length_append, List.length_take]; omega)]
  exact List.take_of_length_le (by rw [List.length_append, List.length_take]; omega)
/-- what stands behind a splice -/
theorem splice_drop {L cs : List Value} {o k : Nat} (hk : o + cs.length ≤ k) (ho : o + cs.length ≤ L.length) : (splice L o cs).drop k = L.drop k := by
  unfold splice
  have e : (L.take o).length = o := by rw [List.length_take]; omega
  have e1 : (L.take o).drop k = [] := List.drop_eq_nil_of_le (by omega)
  have e2 : cs.drop (k - o) = [] := List.drop_eq_nil_of_le (by omega)
  rw [List.drop_append, e, e1, List.drop_append, e2, List.drop_drop, List.nil_append, List.nil_append]
  congr 1
  omega
end
end Go.Proofs.Ytghcfmkmndldoaa

/-
  Add, plain: a stretch laid into a plain list; what it neither has nor touches stays.
-/
namespace Go.Proofs.Ytghcfmkmndldoaa

/-- a key that something covers -/
theorem top_some {l : List Ec} {k : ByteArray} (h : 0 < topE l k) : ∃ e ∈ l, covE e k = true := by
  obtain ⟨e, he, hc, _⟩ := has_iff.1 h
  exact ⟨e, he, hc⟩
theorem top_mem {l : List Ec} (h : PlainE l) {e : Ec} (he : e ∈ l) {k : ByteArray} (hc : covE e k = true) : topE l k = e.2.2 + 1 := by
  induction l with
  | nil => cases he
  | cons a l ih =>
    rcases List.mem_cons.1 he with rfl | he'
    · exact top_in h hc
    · have hna : ¬ covE a k = true := fun q => kl_irrefl k (kl_ke (kl_ke (covE_iff.1 q).2 (h.head e he').1) (covE_iff.1 hc).1)
      rw [top_out hna]
      exact ih h.tail he'
/-- what stands in the middle: the stretches that e may touch, and e -/
structure MidE (seg out : List Ec) (e : Ec) : Prop where
  segp : PlainE seg
  outp : PlainE out
  ok : kl e.1 e.2.1
  top : ∀ j, topE out j = max (topE seg j) (if covE e j = true then e.2.2 + 1 else 0)
theorem MidE.at_ {seg out : List Ec} {e z : Ec} (h : MidE seg out e) (hz : z ∈ out) {j : ByteArray} (hj : covE z j = true) : z.2.2 + 1 = max (topE seg j) (if covE e j = true then e.2.2 + 1 else 0) := by
  rw [← h.top, top_mem h.outp hz hj]
theorem MidE.or {seg out : List Ec} {e z : Ec} (h : MidE seg out e) (hz : z ∈ out) {j : ByteArray} (hj : covE z j = true) : covE e j = true ∨ ∃ y ∈ seg, covE y j = true := by
  by_cases hc : covE e j = true
  · exact .inl hc
  · have := h.at_ hz hj
    rw [if_neg hc] at this
    exact .inr (top_some (by omega))
theorem MidE.only {seg out : List Ec} {e z : Ec} (h : MidE seg out e) (hz : z ∈ out) {j : ByteArray} (hj : covE z j = true) (hc : ¬ covE e j = true) : ∃ y ∈ seg, covE y j = true ∧ y.2.2 = z.2.2 := by
  rcases h.or hz hj with q | ⟨y, hy, q⟩
  · exact absurd q hc
  · refine ⟨y, hy, q, ?_⟩
    have h1 := h.at_ hz hj
    rw [if_neg hc, top_mem h.segp hy q] at h1
    omega
theorem covE_lo {z : Ec} (h : kl z.1 z.2.1) : covE z z.1 = true := covE_iff.2 ⟨ke_refl _, h⟩
theorem MidE.left {seg out : List Ec} {e x z : Ec} (h : MidE seg out e) (hx : kl x.2.1 e.1) (hs : ∀ y ∈ seg, SepE x y) (hz : z ∈ out) : SepE x z := by
  have hzz := covE_lo (h.outp.ok z hz)
  rcases h.or hz hzz with q | ⟨y, hy, q⟩
  · have h1 := kl_ke hx (covE_iff.1 q).1
    exact ⟨h1.ke, fun e1 => absurd e1 (kl_ne h1)⟩
  · refine ⟨ke_trans (hs y hy).1 (covE_iff.1 q).1, fun e1 => ?_⟩
    have hne : ¬ covE e z.1 = true := fun q2 => by
      have := kl_ke hx (covE_iff.1 q2).1
      exact kl_ne this e1
    obtain ⟨y2, hy2, q2, hsq⟩ := h.only hz hzz hne
    have e2 : x.2.1 = y2.1 := ke_antisymm (hs y2 hy2).1 (by rw [e1]; exact (covE_iff.1 q2).1)
    rw [← hsq]
    exact (hs y2 hy2).2 e2
theorem MidE.right {seg out : List Ec} {e w z : Ec} (h : MidE seg out e) (hw : kl e.2.1 w.1) (hs : ∀ y ∈ seg, SepE y w) (hz : z ∈ out) : SepE z w := by
  have hzok := h.outp.ok z hz
  -- what covers a key ends by w's beginning
  have hend : ∀ j, covE z j = true → kl j w.1 := fun j hj => by
    rcases h.or hz hj with q | ⟨y, hy, q⟩
    · exact kl_trans (covE_iff.1 q).2 hw
    · exact kl_ke (covE_iff.1 q).2 (hs y hy).1
  have h1 : ke z.2.1 w.1 := by
    rw [ke_iff]
    intro q
    have q1 := hend z.1 (covE_lo hzok)
    exact kl_irrefl w.1 (hend w.1 (covE_iff.2 ⟨q1.ke, q⟩))
  refine ⟨h1, fun e1 => ?_⟩
  -- a key of z that e has not, from e's end on
  obtain ⟨q, hq1, hq2, hq3⟩ : ∃ q, ke z.1 q ∧ ke e.2.1 q ∧ kl q z.2.1 := by
    rcases ke_or z.1 e.2.1 with p | p
    · exact ⟨e.2.1, p, ke_refl _, by rw [e1]; exact hw⟩
    · exact ⟨z.1, ke_refl _, p.ke, hzok⟩
  have hne : ∀ j, ke e.2.1 j → ¬ covE e j = true := fun j hj q => kl_irrefl j (kl_ke (covE_iff.1 q).2 hj)
  obtain ⟨y, hy, hyc, hys⟩ := h.only hz (covE_iff.2 ⟨hq1, hq3⟩) (hne q hq2)
  rcases ke_eq (hs y hy).1 with p | p
  · -- y ends ahead of w: another one goes on with its number
    have hyq := (covE_iff.1 hyc).2
    have hzc : covE z y.2.1 = true := covE_iff.2 ⟨ke_trans hq1 hyq.ke, by rw [e1]; exact p⟩
    obtain ⟨y2, hy2, hyc2, hys2⟩ := h.only hz hzc (hne _ (ke_trans hq2 hyq.ke))
    exfalso
    obtain ⟨i, hi⟩ := List.getElem?_of_mem hy
    obtain ⟨j, hj⟩ := List.getElem?_of_mem hy2
    obtain ⟨i1, i2⟩ := List.getElem?_eq_some_iff.1 hi
    obtain ⟨j1, j2⟩ := List.getElem?_eq_some_iff.1 hj
    rcases Nat.lt_trichotomy i j with c | c | c
    · have hp := List.pairwise_iff_getElem.1 h.segp.sep i j i1 j1 c
      rw [i2, j2] at hp
      exact hp.2 (ke_antisymm hp.1 (covE_iff.1 hyc2).1) (by rw [hys, hys2])
    · subst c
      rw [hi] at hj
      cases hj
      exact kl_irrefl _ (covE_iff.1 hyc2).2
    · have hp := List.pairwise_iff_getElem.1 h.segp.sep j i j1 i1 c
      rw [i2, j2] at hp
      exact kl_irrefl y.2.1 (kl_trans (kl_ke (covE_iff.1 hyc2).2 hp.1) (h.segp.ok y hy))
  · rw [← hys]
    exact (hs y hy).2 p
/-- the list with e laid into it -/
theorem add_plain {l out : List Ec} {e : Ec} {a b : Nat} (hl : PlainE l) (hab : a ≤ b) (ha : ∀ i x, l[i]? = some x → i < a → kl x.2.1 e.1) (hb : ∀ i x, l[i]? = some x → b ≤ i → kl e.2.1 x.1) (h : MidE ((l.take b).drop a) out e) :
    PlainE (l.take a ++ out ++ l.drop b) ∧ ∀ j, topE (l.take a ++ out ++ l.drop b) j = max (topE l j) (if covE e j = true then e.2.2 + 1 else 0) := by
  have hpw := hl.sep
  have hla : ∀ x ∈ l.take a, kl x.2.1 e.1 ∧ ∀ y ∈ l.drop a, SepE x y := fun x hx => by
    obtain ⟨i, hi⟩ := List.getElem?_of_mem hx
    rw [List.getElem?_take] at hi
    split at hi
    · rename_i hia
      refine ⟨ha i x hi hia, fun y hy => ?_⟩
      have hsp := hpw
      rw [← List.take_append_drop a l] at hsp
      exact (List.pairwise_append.1 hsp).2.2 x hx y hy
    · cases hi
  have hlb : ∀ w ∈ l.drop b, kl e.2.1 w.1 ∧ ∀ y ∈ l.take b, SepE y w := fun w hw => by
    obtain ⟨i, hi⟩ := List.getElem?_of_mem hw
    rw [List.getElem?_drop] at hi
    refine ⟨hb _ w hi (Nat.le_add_right _ _), fun y hy => ?_⟩
    have hsp := hpw
    rw [← List.take_append_drop b l] at hsp
    exact (List.pairwise_append.1 hsp).2.2 y hy w hw
  have hseg : (l.take b).drop a = (l.drop a).take (b - a) := List.drop_take
  refine ⟨⟨fun z hz => ?_, ?_⟩, fun j => ?_⟩
  · rcases List.mem_append.1 hz with hz | hz
    · rcases List.mem_append.1 hz with hz | hz
      · exact hl.ok z (List.mem_of_mem_take hz)
      · exact h.outp.ok z hz
    · exact hl.ok z (List.mem_of_mem_drop hz)
  · rw [List.append_assoc]
    refine List.pairwise_append.2 ⟨hpw.sublist (List.take_sublist _ _), List.pairwise_append.2 ⟨h.outp.sep, hpw.sublist (List.drop_sublist _ _), fun z hz w hw => ?_⟩, fun x hx z hz => ?_⟩
    · exact h.right (hlb w hw).1 (fun y hy => (hlb w hw).2 y (List.mem_of_mem_drop hy)) hz
    · rcases List.mem_append.1 hz with hz | hz
      · exact h.left (hla x hx).1 (fun y hy => (hla x hx).2 y (by rw [hseg] at hy; exact List.mem_of_mem_take hy)) hz
      · refine (hla x hx).2 z ?_
        have : l.drop b = (l.drop a).drop (b - a) := by rw [List.drop_drop]; congr 1; omega
        rw [this] at hz
        exact List.mem_of_mem_drop hz
  · have e1 : l = l.take a ++ (l.take b).drop a ++ l.drop b := by
      have : l.take a = (l.take b).take a := by rw [List.take_take, Nat.min_eq_left hab]
      rw [this, List.take_append_drop, List.take_append_drop]
    have e2 : topE l j = max (max (topE (l.take a) j) (topE ((l.take b).drop a) j)) (topE (l.drop b) j) := by
      conv => lhs; rw [e1]
      rw [top_append, top_append]
    rw [top_append, top_append, h.top, e2]
    omega
end Go.Proofs.Ytghcfmkmndldoaa

/-
  Rows of texts: read, owned, appended to; a text laid into a rising row, plain.
-/
namespace Go.Proofs.Ytghcfmkmndldoaa
open Go.RowKit Go.Sort Go.Lib

def StS (ls : List ByteArray) : List Value := ls.map Value.string
/-- THE SLICE AT A READS AS the texts ls, all of it below block B -/
def RS (w : World) (B : Nat) (A : Option Addr) (ls : List ByteArray) : Prop := ∀ k z, ls[k]? = some z → ∃ b o, A = some ⟨b, o, none⟩ ∧ b < B ∧ w.cell? ⟨b, o + k, none⟩ = some (.string z)
/-- THE CALL OWNS v, a slice of texts -/
def OwnS (w : World) (base : Nat) (v : Value) (ls : List ByteArray) : Prop := OwnV w base 9 v (StS ls)
theorem infoStr : (Try.prog.info? 9).map (fun i => (i.zero, i.size, i.bytes)) = some (some (.string ⟨#[]⟩), 1, 16) := by kernel_rfl
section
variable {w w' : World} {B B' base : Nat} {A : Option Addr} {v : Value} {ls ks : List ByteArray}
theorem RS.below (h : RS w B A ls) (hb : Below B w w') : RS w' B A ls := fun k p hk => by
  obtain ⟨b, o, e, hlt, h0⟩ := h k p hk
  exact ⟨b, o, e, hlt, (hb.cell hlt).trans h0⟩
theorem RS.wide (h : RS w B A ls) (hB : B ≤ B') : RS w B' A ls := fun k p hk => by
  obtain ⟨b, o, e, hlt, h0⟩ := h k p hk
  exact ⟨b, o, e, by omega, h0⟩
theorem RS.now (h : RS w w.heap.size A ls) (hb : Below w.heap.size w w') : RS w' w'.heap.size A ls := (h.below hb).wide hb.size
theorem RS.nil (w : World) (B : Nat) (A : Option Addr) : RS w B A [] := fun k p h => by simp at h
theorem RS.take (h : RS w B A ls) (n : Nat) : RS w B A (ls.take n) := fun k p hk => by
  rw [List.getElem?_take] at hk
  split at hk
  · exact h k p hk
  · cases hk
theorem RS.cut {b o : Nat} (h : RS w B (some ⟨b, o, none⟩) ls) (n : Nat) : RS w B (some ⟨b, o + n, none⟩) (ls.drop n) := fun k p hk => by
  rw [List.getElem?_drop] at hk
  obtain ⟨b', o', e, hlt, h0⟩ := h _ p hk
  cases e
  rw [← Nat.add_assoc] at h0
  exact ⟨b, _, rfl, hlt, h0⟩
theorem RS.flat (h : RS w B A ls) (h0 : 0 < ls.length) : ∃ b o, A = some ⟨b, o, none⟩ ∧ b < B := by
  obtain ⟨b, o, e, hlt, _⟩ := h 0 _ (List.getElem?_eq_getElem h0)
  exact ⟨b, o, e, hlt⟩
theorem StS_len (ls : List ByteArray) : (StS ls).length = ls.length := by simp [StS]
theorem OwnS.rd (h : OwnS w base v ls) : ∃ A c, v = .slice A ls.length c ∧ ls.length ≤ c ∧ (A = none → c = 0) ∧ RS w w.heap.size A ls := by
  obtain ⟨A, c, e, h1, h2, h3⟩ := OwnV.rd h
  rw [StS_len] at e h1
  refine ⟨A, c, e, h1, h2, fun k z hk => ?_⟩
  obtain ⟨b, q1, q2, q3⟩ := h3 k (.string z) (by simp [StS, hk])
  exact ⟨b, 0, q1, q2, by rw [Nat.zero_add]; exact q3⟩
theorem app_strs_run (ty : TypeId) (ho : OwnS w base v ls) (hr : RS w B A ks) (c : Nat) (hlen : ls.length + ks.length ≤ 10000000) (hbase : base ≤ w.heap.size) :
    ∃ v' w', (Builtin.append_ #[71, 71] ty #[v, .slice A ks.length c]).run Try.prog w = .ok v' w' ∧ OwnS w' base v' (ls ++ ks) ∧ w.grownBy w' v.ownBlock ∧ (v'.ownBlock = v.ownBlock ∨ v'.ownBlock = some w.heap.size) := by
  obtain ⟨i0, hi0, hz0, hz1, hz2⟩ := info_parts infoStr
  by_cases h0 : ks = []
  · subst h0
    refine ⟨v, w, ?_, by rw [List.append_nil]; exact ho, World.grownBy.refl w _, .inl rfl⟩
    rcases ho.2 with ⟨rfl, _⟩ | ⟨g, cap, cur, rfl, _, _, hnc, _⟩
    · cases A <;> simp [Builtin.append_, run_underlying Try.underlying71, sizeOf, typeInfo, hi0, hz1, Builtin.lenOf, Builtin.firstCells, loadCells, loadCellsFrom]
    · cases A <;> simp [Builtin.append_, run_underlying Try.underlying71, sizeOf, typeInfo, hi0, hz1, Builtin.lenOf, Builtin.firstCells, hnc, storeCells, loadCells, loadCellsFrom]
  · obtain ⟨b, o, rfl, _⟩ := hr.flat (List.length_pos_iff.2 h0)
    obtain ⟨v', w', h1, h2, h3, h4⟩ := app_cells_run (w := w) 71 ty 9 Try.underlying71 (.string ⟨#[]⟩) 16 infoStr rfl base v (StS ls) ho ⟨b, o, none⟩ c (StS ks) (fun j u hj => by
      simp only [StS, List.getElem?_map, Option.map_eq_some_iff] at hj
      obtain ⟨z, hz, rfl⟩ := hj
      obtain ⟨b', o', e, _, q⟩ := hr j z hz
      cases e
      rw [add_flat]
      exact q) (fun u hu => by
      simp only [StS, List.mem_map] at hu
      obtain ⟨z, _, rfl⟩ := hu
      rfl) (by rw [StS_len, StS_len]; omega) (by rw [StS_len, StS_len]; omega) hbase
    rw [StS_len] at h1
    exact ⟨v', w', h1, by show OwnV _ _ _ _ _; rw [show StS (ls ++ ks) = StS ls ++ StS ks by simp [StS]]; exact h2, h3, h4⟩
theorem app_strs {ops : Array Oper} {rest : List Oper} {o : Oper} {a : Act} {Q : Exit → Act → World → Prop} (hgd : o.guard = none) (s x : Operand)
    (ho : o.op = .call { callee := .builtin .append, args := #[s, x], argTypes := #[71, 71] })
    (hs : a.eval s = v) (hown : OwnS w base v ls) (m c : Nat) (hx : a.eval x = .slice A m c) (hm : m = ks.length) (hr : RS w B A ks) (hlen : ls.length + ks.length ≤ 10000000) (hbase : base ≤ w.heap.size)
    (h : ∀ v' w', OwnS w' base v' (ls ++ ks) → w.grownBy w' v.ownBlock → wpList Try.prog ops Q rest (a.put o.dst v') w') :
    wpList Try.prog ops Q (o :: rest) a w := by
  subst hm
  refine wpList_plain hgd fun K hK => ?_
  obtain ⟨v', w', hrun, h2, h3, _⟩ := app_strs_run o.type hown hr c hlen hbase
  unfold Oper.wp execOp
  simp only [ho, resolve, invoke, builtin, Sem.run_bind, Sem.run_pure, Result.andThen_ok, List.map_toArray, List.map_cons, List.map_nil, hs, hx]
  rw [show (Builtin.append_ #[71, 71] o.type #[v, .slice A ks.length c]).run Try.prog w = .ok v' w' from hrun]
  exact hK _ _ (h v' w' h2 h3)
theorem OwnS.grownB (h : OwnS w base v ls) (hg : w.grownBy w' v.ownBlock) (hbase : base ≤ w.heap.size) : Below base w w' := (Below.refl _ _).grown hg hbase fun k hk => (OwnV.ge h k hk).1
/-- an empty row of the call's own -/
theorem OwnS.empty (w : World) (hb : base ≤ w.heap.size) : OwnS (w.alloc (.cells #[] 9)) base (.slice (some ⟨w.heap.size, 0, none⟩) 0 0) [] := OwnV.mk (xs := []) hb (Cells.new w #[] 9) (Nat.le_refl _) (Nat.zero_le _) rfl rfl
theorem RS.one (w : World) (x : ByteArray) : RS (w.alloc (.cells #[.string x] 9)) (w.heap.size + 1) (some ⟨w.heap.size, 0, none⟩) [x] := fun k p hk => by
  have hk0 : k = 0 := by
    have := (List.getElem?_eq_some_iff.1 hk).1
    simp at this
    exact this
  subst hk0
  have e1 : p = x := by simpa using hk.symm
  subst e1
  exact ⟨_, 0, rfl, Nat.lt_succ_self _, (Cells.new w #[.string p] 9).cell (i := 0) rfl⟩
end
/-- rising, each once -/
def SortB (l : List ByteArray) : Prop := l.Pairwise kl
theorem sort_ins {l : List ByteArray} {x : ByteArray} {i : Nat} (hs : SortB l) (h1 : ∀ j y, j < i → l[j]? = some y → kl y x) (h2 : ∀ y, l[i]? = some y → kl x y) :
    SortB (l.take i ++ [x] ++ l.drop i) ∧ ∀ y, y ∈ l.take i ++ [x] ++ l.drop i ↔ y = x ∨ y ∈ l := by
  have hlo : ∀ y ∈ l.take i, kl y x := fun y hy => by
    obtain ⟨j, hj⟩ := List.getElem?_of_mem hy
    rw [List.getElem?_take] at hj
    split at hj
    · rename_i q
      exact h1 j y q hj
    · cases hj
  have hhi : ∀ y ∈ l.drop i, kl x y := fun y hy => by
    cases hd : l.drop i with
    | nil => rw [hd] at hy; cases hy
    | cons z r =>
      have hz : l[i]? = some z := by
        have := congrArg (fun t => t[0]?) hd
        simpa using this
      have hp : SortB (z :: r) := hd ▸ hs.sublist (List.drop_sublist _ _)
      rw [hd] at hy
      rcases List.mem_cons.1 hy with rfl | hy
      · exact h2 _ hz
      · exact kl_trans (h2 z hz) ((List.pairwise_cons.1 hp).1 y hy)
  have hpw := hs
  rw [show SortB l ↔ SortB (l.take i ++ l.drop i) by rw [List.take_append_drop]] at hpw
  obtain ⟨p1, p2, p3⟩ := List.pairwise_append.1 hpw
  refine ⟨?_, fun y => ?_⟩
  · rw [List.append_assoc]
    refine List.pairwise_append.2 ⟨p1, ?_, fun a ha b hb => ?_⟩
    · exact List.pairwise_cons.2 ⟨hhi, p2⟩
    · rcases List.mem_cons.1 hb with rfl | hb
      · exact hlo a ha
      · exact p3 a ha b hb
  · constructor
    · intro h
      rcases List.mem_append.1 h with h | h
      · rcases List.mem_append.1 h with h | h
        · exact .inr (List.mem_of_mem_take h)
        · exact .inl (List.mem_singleton.1 h)
      · exact .inr (List.mem_of_mem_drop h)
    · rintro (rfl | h)
      · exact List.mem_append_left _ (List.mem_append_right _ (List.mem_singleton.2 rfl))
      · rw [← List.take_append_drop i l] at h
        rcases List.mem_append.1 h with h | h
        · exact List.mem_append_left _ (List.mem_append_left _ h)
        · exact List.mem_append_right _ h
end Go.Proofs.Ytghcfmkmndldoaa

/-
  lay: a text into a rising row.
-/
namespace Go.Proofs.Ytghcfmkmndldoaa
open Go.RowKit Go.Sort Go.Lib

/-- what lay leaves -/
def LayP (l : List ByteArray) (x : ByteArray) (out : List ByteArray) : Prop := SortB out ∧ (∀ y, y ∈ out ↔ y = x ∨ y ∈ l) ∧ out.length ≤ l.length + 1
theorem neq_of (a b : ByteArray) (h : a ≠ b) : (a.toList == b.toList) = false := by
  rw [beq_eq_false_iff_ne]
  exact fun e => h (array_inj e)
section
set_option maxRecDepth 100000
set_option maxHeartbeats 8000000
theorem rlay_any (A : Option Addr) (c : Nat) (l : List ByteArray) (x : ByteArray) (w : World) (hr : RS w w.heap.size A l) (hc : l.length ≤ c) (hs : SortB l) (hl : l.length ≤ 4000000) :
    Calls Try.prog 65 #[.slice A l.length c, .string x] w fun r w' => ∃ A' c' out, r = .returned (.slice A' out.length c') ∧ out.length ≤ c' ∧ RS w' w'.heap.size A' out ∧ LayP l x out ∧ Below w.heap.size w w' := by
  have Hr : Hid (RS w w.heap.size A l ∧ SortB l ∧ l.length ≤ 4000000) := ⟨hr, hs, hl⟩
  have Hlen : Hid (∀ k : Nat, k < l.length → ∃ u, l[k]? = some u) := fun k hk => ⟨_, List.getElem?_eq_getElem hk⟩
  obtain ⟨n, hn⟩ : ∃ n, n = l.length := ⟨_, rfl⟩
  rw [← hn] at Hlen hc ⊢
  have Hn := Lib.hid hn
  have hl' : (n : Int) ≤ 4000000 := by omega
  have hnc : (n : Int) ≤ (c : Int) := by omega
  clear hr hs hl hn
  go_enter Try.func65, Try.ntmps65
  go_wp2_with fail
  go_loopw [5] (fun iv wr => ∃ i : Nat, iv = .int .i64 (i : Int) ∧ i ≤ n ∧ wr = w ∧ Hid (∀ j y, j < i → l[j]? = some y → kl y x)) (fun iv _ => n - (intOf iv).toNat)
  case atStart => exact ⟨0, rfl, Nat.zero_le _, rfl, fun j y hj => absurd hj (Nat.not_lt_zero _)⟩
  case round =>
    obtain ⟨i, rfl, hi, rfl, hst⟩ := hrel
    by_cases hlt : i < n
    · obtain ⟨y, hy⟩ := Hlen.out i hlt
      obtain ⟨b, o, rfl, _, x0⟩ := Hr.out.1 i y hy
      have hlt' : (i : Int) < (n : Int) := by omega
      have Hy := Lib.hid hy
      have Hi : Hid (i < n) := hlt
      have hci : ¬ c = i := by omega
      have hic : (i : Int) ≤ (c : Int) := by omega
      have hin : (i : Int) ≤ (n : Int) := by omega
      rcases less_total y.toList x.toList with h | h | h
      · have Hk : Hid (∀ j z, j < i + 1 → l[j]? = some z → kl z x) := fun j z hj hz => by
          rcases Nat.lt_or_ge j i with q | q
          · exact hst.out j z q hz
          · obtain rfl : j = i := by omega
            rw [Hy.out] at hz
            cases hz
            exact h
        clear hy hlt hst
        go_wp2_with fail
        go_roundw
        case rel => exact ⟨i + 1, by go_num, by have := Hi.out; omega, by first | trivial | rfl, Hk.out⟩
        case measure => have := Hi.out; simp [intOf]; omega
      · have e9 := array_inj h
        subst e9
        have h2 := less_irrefl y.toList
        have h3 : (y.toList == y.toList) = true := by simp
        have Hf : Hid (RS wr wr.heap.size (some ⟨b, o, none⟩) l ∧ LayP l y l) := ⟨Hr.out.1, Hr.out.2.1, fun z => ⟨fun q => .inr q, fun q => q.elim (fun e => by rw [e]; exact List.mem_of_getElem? Hy.out) id⟩, by omega⟩
        have Hcc : Hid (l.length ≤ c) := by show _ ≤ _; rw [← Hn.out]; exact hc
        clear hy hlt hst
        go_wp2_with fail
        go_ret
        exact ⟨_, _, l, by rw [Hn.out]; rfl, Hcc.out, Hf.out.1, Hf.out.2, Below.refl _ _⟩
      · have h2 := less_asymm h
        have h3 : (y.toList == x.toList) = false := neq_of _ _ fun e => by rw [e, less_irrefl] at h; cases h
        have hins := sort_ins (x := x) (i := i) Hr.out.2.1 hst.out (fun z hz => by rw [Hy.out] at hz; cases hz; exact h)
        have Hins := Lib.hid hins
        have Hll : Hid ((l.take i).length = i ∧ (l.drop i).length = n - i ∧ (l.take i ++ [x] ++ l.drop i).length = n + 1) := by
          have q := Hn.out
          refine ⟨?_, ?_, ?_⟩ <;> simp only [List.length_append, List.length_take, List.length_drop, List.length_singleton] <;> omega
        have hni : (i : Int) ≤ 4000000 := by omega
        obtain ⟨W1, hW1⟩ : ∃ W1, W1 = wr.alloc (.cells #[] 9) := ⟨_, rfl⟩
        have hb1 : Below wr.heap.size wr W1 := by rw [hW1]; exact (Below.refl _ _).alloc (Nat.le_refl _) _
        have hE1 : OwnS W1 wr.heap.size (.slice (some ⟨wr.heap.size, 0, none⟩) 0 0) [] := by rw [hW1]; exact OwnS.empty wr (Nat.le_refl _)
        have H1 : Hid (Below wr.heap.size wr W1 ∧ OwnS W1 wr.heap.size (.slice (some ⟨wr.heap.size, 0, none⟩) 0 0) [] ∧ RS W1 W1.heap.size (some ⟨b, o, none⟩) (l.take i) ∧ wr.heap.size ≤ W1.heap.size) := ⟨hb1, hE1, (Hr.out.1.take i).now hb1, hb1.size⟩
        clear hy hlt hst hins hb1 hE1
        rw [hW1] at H1
        clear hW1
        go_wp2_with (first
          | (at_builtin; refine app_strs rfl (.tmp 34) (.tmp 37) rfl rfl H1.out.2.1 i c rfl Hll.out.1.symm H1.out.2.2.1 (by rw [Hll.out.1]; simp; omega) H1.out.2.2.2 ?_; intro v2 w2 o2 g2; have q2 := OwnS.grownB H1.out.2.1 g2 H1.out.2.2.2; obtain ⟨A2, c2, e2, -⟩ := o2.rd; rw [List.nil_append] at o2 e2; rw [Hll.out.1] at e2; subst e2; have H2 : Hid (OwnS w2 wr.heap.size (.slice A2 i c2) (l.take i) ∧ Below wr.heap.size wr w2) := ⟨o2, H1.out.1.trans q2⟩; clear o2 g2 q2)
          | (at_builtin; refine app_strs rfl (.tmp 38) (.tmp 40) rfl rfl (OwnV.alloc H2.out.1 _) 1 1 rfl rfl (RS.one w2 x) (by rw [Hll.out.1]; simp; omega) (by have := H2.out.2.size; simp; omega) ?_; intro v3 w3 o3 g3; have q3 := OwnS.grownB (OwnV.alloc H2.out.1 _) g3 (by have := H2.out.2.size; simp; omega); have p3 : Below wr.heap.size wr w3 := (H2.out.2.alloc H2.out.2.size _).trans q3; obtain ⟨A3, c3, e3, -⟩ := o3.rd; rw [List.length_append, Hll.out.1] at e3; subst e3; have H3 : Hid (OwnS w3 wr.heap.size (.slice A3 (i + 1) c3) (l.take i ++ [x]) ∧ Below wr.heap.size wr w3 ∧ RS w3 w3.heap.size (some ⟨b, o + i, none⟩) (l.drop i)) := ⟨o3, p3, (Hr.out.1.cut i).now p3⟩; clear o3 g3 q3 p3)
          | (at_builtin; refine app_strs rfl (.tmp 42) (.tmp 45) rfl rfl H3.out.1 (n - i) (c - i) rfl Hll.out.2.1.symm H3.out.2.2 (by rw [List.length_append, Hll.out.1, Hll.out.2.1]; simp; omega) H3.out.2.1.size ?_; intro v4 w4 o4 g4; have q4 := OwnS.grownB H3.out.1 g4 H3.out.2.1.size; obtain ⟨A4, c4, e4, -⟩ := o4.rd; rw [Hll.out.2.2] at e4; subst e4; have H4 : Hid (OwnS w4 wr.heap.size (.slice A4 (n + 1) c4) (l.take i ++ [x] ++ l.drop i) ∧ Below wr.heap.size wr w4) := ⟨o4, H3.out.2.1.trans q4⟩; clear o4 g4 q4))
        obtain ⟨A5, c5, e5, h5, _, r5⟩ := H4.out.1.rd
        rw [Hll.out.2.2] at e5 h5
        cases e5
        go_ret
        exact ⟨_, _, _, by rw [Hll.out.2.2]; rfl, by rw [Hll.out.2.2]; exact h5, r5, ⟨Hins.out.1, Hins.out.2, by rw [Hll.out.2.2]; have := Hn.out; omega⟩, H4.out.2⟩
    · obtain rfl : i = n := by omega
      have hins := sort_ins (x := x) (i := i) Hr.out.2.1 hst.out (fun z hz => by have := (List.getElem?_eq_some_iff.1 hz).1; have := Hn.out; omega)
      have Hins := Lib.hid hins
      have Hdr : Hid (∀ W (A' : Option Addr), RS W 0 A' (l.drop i)) := fun W A' => by rw [List.drop_eq_nil_of_le (by have := Hn.out; omega)]; exact RS.nil _ _ _
      have Hll : Hid ((l.take i).length = i ∧ (l.drop i).length = 0 ∧ (l.take i ++ [x] ++ l.drop i).length = i + 1) := by
        have q := Hn.out
        refine ⟨?_, ?_, ?_⟩ <;> simp only [List.length_append, List.length_take, List.length_drop, List.length_singleton] <;> omega
      obtain ⟨W1, hW1⟩ : ∃ W1, W1 = wr.alloc (.cells #[] 9) := ⟨_, rfl⟩
      have hb1 : Below wr.heap.size wr W1 := by rw [hW1]; exact (Below.refl _ _).alloc (Nat.le_refl _) _
      have hE1 : OwnS W1 wr.heap.size (.slice (some ⟨wr.heap.size, 0, none⟩) 0 0) [] := by rw [hW1]; exact OwnS.empty wr (Nat.le_refl _)
      have H1 : Hid (Below wr.heap.size wr W1 ∧ OwnS W1 wr.heap.size (.slice (some ⟨wr.heap.size, 0, none⟩) 0 0) [] ∧ RS W1 W1.heap.size A (l.take i) ∧ wr.heap.size ≤ W1.heap.size) := ⟨hb1, hE1, (Hr.out.1.take i).now hb1, hb1.size⟩
      clear hlt hst hins hb1 hE1
      rw [hW1] at H1
      clear hW1
      rcases Decidable.em (c = i) with hci | hci
      · subst hci
        go_wp2_with (first
          | (at_builtin; refine app_strs rfl (.tmp 34) (.tmp 37) rfl rfl H1.out.2.1 c c rfl Hll.out.1.symm H1.out.2.2.1 (by rw [Hll.out.1]; simp; omega) H1.out.2.2.2 ?_; intro v2 w2 o2 g2; have q2 := OwnS.grownB H1.out.2.1 g2 H1.out.2.2.2; obtain ⟨A2, c2, e2, -⟩ := o2.rd; rw [List.nil_append] at o2 e2; rw [Hll.out.1] at e2; subst e2; have H2 : Hid (OwnS w2 wr.heap.size (.slice A2 c c2) (l.take c) ∧ Below wr.heap.size wr w2) := ⟨o2, H1.out.1.trans q2⟩; clear o2 g2 q2)
          | (at_builtin; refine app_strs rfl (.tmp 38) (.tmp 40) rfl rfl (OwnV.alloc H2.out.1 _) 1 1 rfl rfl (RS.one w2 x) (by rw [Hll.out.1]; simp; omega) (by have := H2.out.2.size; simp; omega) ?_; intro v3 w3 o3 g3; have q3 := OwnS.grownB (OwnV.alloc H2.out.1 _) g3 (by have := H2.out.2.size; simp; omega); have p3 : Below wr.heap.size wr w3 := (H2.out.2.alloc H2.out.2.size _).trans q3; obtain ⟨A3, c3, e3, -⟩ := o3.rd; rw [List.length_append, Hll.out.1] at e3; subst e3; have H3 : Hid (OwnS w3 wr.heap.size (.slice A3 (c + 1) c3) (l.take c ++ [x]) ∧ Below wr.heap.size wr w3) := ⟨o3, p3⟩; clear o3 g3 q3 p3)
          | (at_builtin; refine app_strs rfl (.tmp 42) (.tmp 45) rfl rfl H3.out.1 0 0 rfl Hll.out.2.1.symm (Hdr.out _ _) (by rw [List.length_append, Hll.out.1, Hll.out.2.1]; simp; omega) H3.out.2.size ?_; intro v4 w4 o4 g4; have q4 := OwnS.grownB H3.out.1 g4 H3.out.2.size; obtain ⟨A4, c4, e4, -⟩ := o4.rd; rw [Hll.out.2.2] at e4; subst e4; have H4 : Hid (OwnS w4 wr.heap.size (.slice A4 (c + 1) c4) (l.take c ++ [x] ++ l.drop c) ∧ Below wr.heap.size wr w4) := ⟨o4, H3.out.2.trans q4⟩; clear o4 g4 q4))
        obtain ⟨A5, c5, e5, h5, _, r5⟩ := H4.out.1.rd
        rw [Hll.out.2.2] at e5 h5
        cases e5
        go_ret
        exact ⟨_, _, _, by rw [Hll.out.2.2]; rfl, by rw [Hll.out.2.2]; exact h5, r5, ⟨Hins.out.1, Hins.out.2, by rw [Hll.out.2.2]; have := Hn.out; omega⟩, H4.out.2⟩
      · clear hnc
        have hnc : (i : Int) ≤ (c : Int) := by omega
        go_wp2_with (first
          | (at_builtin; refine app_strs rfl (.tmp 34) (.tmp 37) rfl rfl H1.out.2.1 i c rfl Hll.out.1.symm H1.out.2.2.1 (by rw [Hll.out.1]; simp; omega) H1.out.2.2.2 ?_; intro v2 w2 o2 g2; have q2 := OwnS.grownB H1.out.2.1 g2 H1.out.2.2.2; obtain ⟨A2, c2, e2, -⟩ := o2.rd; rw [List.nil_append] at o2 e2; rw [Hll.out.1] at e2; subst e2; have H2 : Hid (OwnS w2 wr.heap.size (.slice A2 i c2) (l.take i) ∧ Below wr.heap.size wr w2) := ⟨o2, H1.out.1.trans q2⟩; clear o2 g2 q2)
          | (at_builtin; refine app_strs rfl (.tmp 38) (.tmp 40) rfl rfl (OwnV.alloc H2.out.1 _) 1 1 rfl rfl (RS.one w2 x) (by rw [Hll.out.1]; simp; omega) (by have := H2.out.2.size; simp; omega) ?_; intro v3 w3 o3 g3; have q3 := OwnS.grownB (OwnV.alloc H2.out.1 _) g3 (by have := H2.out.2.size; simp; omega); have p3 : Below wr.heap.size wr w3 := (H2.out.2.alloc H2.out.2.size _).trans q3; obtain ⟨A3, c3, e3, -⟩ := o3.rd; rw [List.length_append, Hll.out.1] at e3; subst e3; have H3 : Hid (OwnS w3 wr.heap.size (.slice A3 (i + 1) c3) (l.take i ++ [x]) ∧ Below wr.heap.size wr w3) := ⟨o3, p3⟩; clear o3 g3 q3 p3)
          | (at_builtin; refine app_strs rfl (.tmp 42) (.tmp 45) rfl rfl H3.out.1 0 (c - i) rfl Hll.out.2.1.symm (Hdr.out _ _) (by rw [List.length_append, Hll.out.1, Hll.out.2.1]; simp; omega) H3.out.2.size ?_; intro v4 w4 o4 g4; have q4 := OwnS.grownB H3.out.1 g4 H3.out.2.size; obtain ⟨A4, c4, e4, -⟩ := o4.rd; rw [Hll.out.2.2] at e4; subst e4; have H4 : Hid (OwnS w4 wr.heap.size (.slice A4 (i + 1) c4) (l.take i ++ [x] ++ l.drop i) ∧ Below wr.heap.size wr w4) := ⟨o4, H3.out.2.trans q4⟩; clear o4 g4 q4))
        obtain ⟨A5, c5, e5, h5, _, r5⟩ := H4.out.1.rd
        rw [Hll.out.2.2] at e5 h5
        cases e5
        go_ret
        exact ⟨_, _, _, by rw [Hll.out.2.2]; rfl, by rw [Hll.out.2.2]; exact h5, r5, ⟨Hins.out.1, Hins.out.2, by rw [Hll.out.2.2]; have := Hn.out; omega⟩, H4.out.2⟩
end
end Go.Proofs.Ytghcfmkmndldoaa
