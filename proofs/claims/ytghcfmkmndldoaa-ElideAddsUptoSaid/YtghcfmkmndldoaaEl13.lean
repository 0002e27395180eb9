/-
  The law's few, same, known.
-/
import Derived.Test.YtghcfmkmndldoaaEl12
namespace Go.Proofs.Ytghcfmkmndldoaa
open Go.RowKit Go.Sort Go.Lib

def sumE (es : List Ec) : Nat := (es.map fun e => e.1.size + e.2.1.size).sum
theorem sumE_append (a b : List Ec) : sumE (a ++ b) = sumE a + sumE b := by simp [sumE]
theorem sumE_take {es : List Ec} {i : Nat} {e : Ec} (h : es[i]? = some e) : sumE (es.take (i + 1)) = sumE (es.take i) + (e.1.size + e.2.1.size) := by
  rw [List.take_add_one, h, sumE_append]
  simp [sumE]
theorem sumE_le (es : List Ec) (i : Nat) : sumE (es.take i) ≤ sumE es := by
  have := sumE_append (es.take i) (es.drop i)
  rw [List.take_append_drop] at this
  omega
theorem take_eqE {a b : List Ec} {i : Nat} {x : Ec} (h : a.take i = b.take i) (ha : a[i]? = some x) (hb : b[i]? = some x) : a.take (i + 1) = b.take (i + 1) := by
  rw [List.take_add_one, List.take_add_one, h, ha, hb]
/-- the chapter's example -/
def kA : ByteArray := ⟨#[97]⟩
def kC : ByteArray := ⟨#[99]⟩
def kD : ByteArray := ⟨#[100]⟩
def kF : ByteArray := ⟨#[102]⟩
def kM : ByteArray := ⟨#[109]⟩
def exE : List Ec := [(kA, kM, 5), (kC, kF, 9)]
def exP : List Ec := [(kA, kC, 5), (kC, kF, 9), (kF, kM, 5)]
theorem ex_lt : kl kA kC ∧ kl kC kF ∧ kl kF kM ∧ kl kC kD ∧ kl kD kF ∧ kl kA kM := by
  unfold kl kA kC kD kF kM
  simp only [list_of_array]
  decide
theorem ex_plain : PlainE exP := by
  obtain ⟨h1, h2, h3, _, _, _⟩ := ex_lt
  refine ⟨fun e he => ?_, ?_⟩
  · unfold exP at he
    simp only [List.mem_cons, List.not_mem_nil, or_false] at he
    rcases he with rfl | rfl | rfl
    · exact h1
    · exact h2
    · exact h3
  · unfold exP
    simp only [List.pairwise_cons, List.mem_cons, List.not_mem_nil, or_false, List.Pairwise.nil, and_true, forall_eq_or_imp, forall_eq]
    exact ⟨⟨⟨ke_refl _, fun _ => by decide⟩, ⟨h2.ke, fun e => absurd e (kl_ne h2)⟩⟩, ⟨ke_refl _, fun _ => by decide⟩, fun _ h => by cases h⟩
theorem ex_top (j : ByteArray) : topE exP j = topE exE j := by
  obtain ⟨h1, h2, h3, _, _, _⟩ := ex_lt
  have p1 : Op.bytesLess j.toList kA.toList = true → Op.bytesLess j.toList kC.toList = true := fun q => less_trans _ _ _ q h1
  have p2 : Op.bytesLess j.toList kC.toList = true → Op.bytesLess j.toList kF.toList = true := fun q => less_trans _ _ _ q h2
  have p3 : Op.bytesLess j.toList kF.toList = true → Op.bytesLess j.toList kM.toList = true := fun q => less_trans _ _ _ q h3
  unfold exP exE
  simp only [topE, covE]
  rcases Bool.eq_false_or_eq_true (Op.bytesLess j.toList kA.toList) with ha | ha <;> rcases Bool.eq_false_or_eq_true (Op.bytesLess j.toList kC.toList) with hc | hc <;> rcases Bool.eq_false_or_eq_true (Op.bytesLess j.toList kF.toList) with hf | hf <;> rcases Bool.eq_false_or_eq_true (Op.bytesLess j.toList kM.toList) with hm | hm <;> simp [ha, hc, hf, hm] at p1 p2 p3 ⊢
theorem neqE_any (e f : Ec) (w : World) : (binOp .neq 32 (eV e) (eV f)).run Try.prog w = .ok (.bool (!decide (e = f))) w := by
  obtain ⟨a, b, c⟩ := e
  obtain ⟨x, y, z⟩ := f
  unfold eV
  simp only [Prod.mk.injEq]
  by_cases h1 : a.toList = x.toList
  · have := array_inj h1
    subst this
    by_cases h2 : b.toList = y.toList
    · have := array_inj h2
      subst this
      by_cases h3 : c = z
      · subst h3
        simp [go_sem]
      · have h4 : ¬ (c : Int) = (z : Int) := by omega
        simp [go_sem, h3, h4]
    · have h5 : ¬ b = y := fun e => h2 (by rw [e])
      simp [go_sem, h2, h5]
  · have h5 : ¬ a = x := fun e => h1 (by rw [e])
    simp [go_sem, h1, h5]
section
set_option maxRecDepth 100000
set_option maxHeartbeats 4000000
theorem fewE_any (A : Option Addr) (c : Nat) (es : List Ec) (w : World) (hl : es.length ≤ 1099511627776) (hs : sumE es ≤ 4611686018427387904) (hr : RE w w.heap.size A es) :
    Calls Try.prog 8 #[.slice A es.length c] w fun e w' => e = .returned (.bool (decide (es.length ≤ 120) && decide (sumE es ≤ 16384))) ∧ Below w.heap.size w w' := by
  have Hr := Lib.hid hr
  have hl' : ((es.length : Nat) : Int) ≤ 1099511627776 := by omega
  have Hlen : Hid (∀ k : Nat, k < es.length → ∃ u, es[k]? = some u) := fun k hk => ⟨_, List.getElem?_eq_getElem hk⟩
  obtain ⟨n, hn⟩ : ∃ n, n = es.length := ⟨_, rfl⟩
  rw [← hn] at hl' Hlen ⊢
  have Hn := Lib.hid hn
  have Hs := Lib.hid hs
  obtain ⟨sf, hsf⟩ : ∃ sf, sf = sumE es := ⟨_, rfl⟩
  rw [← hsf] at Hs ⊢
  have Hsf := Lib.hid hsf
  clear hr hl hn hs hsf
  go_enter Try.func8, Try.ntmps8
  go_wp2_with fail
  go_loopw [3, 4] (fun tv iv wr => ∃ i : Nat, iv = .int .i64 (i : Int) ∧ i ≤ n ∧ tv = .int .i64 ((sumE (es.take i) : Nat) : Int) ∧ Hid (Below w.heap.size w wr)) (fun _ iv _ => n - (intOf iv).toNat)
  case atStart => exact ⟨0, rfl, Nat.zero_le _, rfl, Below.refl _ _⟩
  case round =>
    obtain ⟨i, rfl, hi, rfl, hg⟩ := hrel
    by_cases hlt : i < n
    · obtain ⟨f, hf⟩ := Hlen.out i hlt
      obtain ⟨b, o, rfl, hblt, c0, c1, c2⟩ := (Hr.out.below hg.out) i f hf
      have hlt' : (i : Int) < (n : Int) := by omega
      have ht := sumE_take hf
      have hle := sumE_le es (i + 1)
      rw [← Hsf.out] at hle
      obtain ⟨k, x, s⟩ := f
      dsimp only at c0 c1 c2 ht
      generalize sumE (es.take i) = tt at *
      have hw1 : IntKind.i64.wrap ((tt : Int) + (k.size : Int)) = (tt : Int) + (k.size : Int) := by rw [IntKind.wrap_i64]; have := Hs.out; omega
      have hw2 : IntKind.i64.wrap ((tt : Int) + (k.size : Int) + (x.size : Int)) = (tt : Int) + (k.size : Int) + (x.size : Int) := by rw [IntKind.wrap_i64]; have := Hs.out; omega
      have Ht : Hid ((tt : Int) + (k.size : Int) + (x.size : Int) = ((sumE (es.take (i + 1)) : Nat) : Int)) := by show _ = _; rw [ht]; omega
      have Hg := hg
      clear hf hg hlt Hlen ht hle c2
      go_upto_region 5 with fail
      go_quiet (fail)
      go_wp2_with fail
      go_roundw
      case rel => exact ⟨i + 1, by go_num, by omega, by rw [Ht.out], below_dr Hg.out nq⟩
      case measure => simp [intOf]; omega
    · obtain rfl : i = n := by omega
      have ht : sumE (es.take i) = sf := by rw [Hsf.out, Hn.out, List.take_of_length_le (Nat.le_refl _)]
      rw [ht]
      have Hg := hg
      clear hg ht
      by_cases hm : i ≤ 120
      · have hm' : (i : Int) ≤ 120 := by omega
        by_cases hs : sf ≤ 16384
        · have hs' : (sf : Int) ≤ 16384 := by omega
          go_wp2_with fail
          go_ret
          exact ⟨by simp [hm, hs], Hg.out⟩
        · have hs' : ¬ (sf : Int) ≤ 16384 := by omega
          go_wp2_with fail
          go_ret
          exact ⟨by simp [hm, hs], Hg.out⟩
      · have hm' : ¬ (i : Int) ≤ 120 := by omega
        go_wp2_with fail
        go_ret
        exact ⟨by first | rfl | simp [hm], Hg.out⟩
theorem sameE_any (A1 A2 : Option Addr) (c1 c2 : Nat) (xs ys : List Ec) (w : World) (hl : xs.length ≤ 1099511627776) (hl2 : ys.length ≤ 1099511627776) (h1 : RE w w.heap.size A1 xs) (h2 : RE w w.heap.size A2 ys) :
    Calls Try.prog 16 #[.slice A1 xs.length c1, .slice A2 ys.length c2] w fun e w' => e = .returned (.bool (decide (xs = ys))) ∧ Below w.heap.size w w' := by
  by_cases hne : xs.length = ys.length
  · have H1 := Lib.hid h1
    have H2 := Lib.hid h2
    have hl' : ((xs.length : Nat) : Int) ≤ 1099511627776 := by omega
    have Hlen : Hid (∀ k : Nat, k < xs.length → ∃ u v, xs[k]? = some u ∧ ys[k]? = some v) := fun k hk => ⟨_, _, List.getElem?_eq_getElem hk, List.getElem?_eq_getElem (by omega)⟩
    rw [← hne]
    have Hne := Lib.hid hne
    obtain ⟨n, hn⟩ : ∃ n, n = xs.length := ⟨_, rfl⟩
    rw [← hn] at hl' Hlen ⊢
    have Hn := Lib.hid hn
    obtain ⟨dv, hdv⟩ : ∃ dv, dv = decide (xs = ys) := ⟨_, rfl⟩
    rw [← hdv]
    have Hdv := Lib.hid hdv
    have hnn : ((n : Int) != (n : Int)) = false := by simp
    clear h1 h2 hl hl2 hn hne hdv
    go_enter Try.func16, Try.ntmps16
    go_wp2_with fail
    go_loopw [5] (fun iv wr => ∃ i : Nat, iv = .int .i64 (i : Int) ∧ i ≤ n ∧ Hid (xs.take i = ys.take i) ∧ Hid (Below w.heap.size w wr)) (fun iv _ => n - (intOf iv).toNat)
    case atStart => exact ⟨0, rfl, Nat.zero_le _, rfl, Below.refl _ w⟩
    case round =>
      obtain ⟨i, rfl, hi, hall, hg⟩ := hrel
      by_cases hlt : i < n
      · obtain ⟨a, b, ha, hb⟩ := Hlen.out i hlt
        obtain ⟨bk, o, rfl, hblt, a0, a1, a2⟩ := (H1.out.below hg.out) i a ha
        obtain ⟨bk2, o2, rfl, hblt2, b0, b1, b2⟩ := (H2.out.below hg.out) i b hb
        have hlt' : (i : Int) < (n : Int) := by omega
        have hq := fun W => neqE_any a b W
        unfold eV at hq
        by_cases hab : a = b
        · subst hab
          rw [decide_eq_true rfl] at hq
          have Ha : Hid (xs.take (i + 1) = ys.take (i + 1)) := take_eqE hall.out ha hb
          clear ha hb hall hlt Hlen H1 H2 hnn
          go_upto_region 6 with fail
          go_quiet (fail)
          go_wp2_with fail
          go_roundw
          case rel => exact ⟨i + 1, by go_num, by omega, Ha, below_dr hg.out nq⟩
          case measure => simp [intOf]; omega
        · rw [decide_eq_false hab] at hq
          obtain rfl : dv = false := by
            rw [Hdv.out]
            exact decide_eq_false fun e => by rw [e, hb] at ha; exact hab (Option.some.inj ha).symm
          clear ha hb hall hlt Hlen H1 H2 hnn hab
          go_upto_region 6 with fail
          go_quiet (fail)
          go_wp2_with fail
          go_ret
          exact ⟨rfl, below_dr hg.out nq⟩
      · obtain rfl : i = n := by omega
        obtain rfl : dv = true := by
          rw [Hdv.out]
          have := hall.out
          rw [List.take_of_length_le (by have := Hn.out; omega), List.take_of_length_le (by have := Hn.out; have := Hne.out; omega)] at this
          exact decide_eq_true this
        clear hall hlt
        go_wp2_with fail
        go_ret
        exact ⟨rfl, hg.out⟩
  · have hq : ((xs.length : Int) != (ys.length : Int)) = true := by simp; omega
    have hd : decide (xs = ys) = false := decide_eq_false fun e => hne (by rw [e])
    rw [hd]
    clear hd
    go_enter Try.func16, Try.ntmps16
    go_wp2_with fail
    go_ret
    exact ⟨rfl, Below.refl _ _⟩
end
end Go.Proofs.Ytghcfmkmndldoaa
