/-
  The law's Few. (Fa30's text, turned.)
-/
import Derived.Test.YtghcfmkmndldoaaEl24
import Derived.Test.YtghcfmkmndldoaaFa21
namespace Go.Proofs.Ytghcfmkmndldoaa
open Go.RowKit Go.Sort Go.Lib

def sumF (fs : List Fc) : Nat := (fs.map fun f => f.1.size + f.2.2.length).sum
theorem sumF_append (a b : List Fc) : sumF (a ++ b) = sumF a + sumF b := by simp [sumF]
theorem sumF_take {fs : List Fc} {i : Nat} {f : Fc} (h : fs[i]? = some f) : sumF (fs.take (i + 1)) = sumF (fs.take i) + (f.1.size + f.2.2.length) := by
  rw [List.take_add_one, h, sumF_append]
  simp [sumF]
theorem sumF_le (fs : List Fc) (i : Nat) : sumF (fs.take i) ≤ sumF fs := by
  have := sumF_append (fs.take i) (fs.drop i)
  rw [List.take_append_drop] at this
  omega
theorem sumF_mem {fs : List Fc} {f : Fc} (h : f ∈ fs) : f.1.size + f.2.2.length ≤ sumF fs := by
  induction fs with
  | nil => cases h
  | cons g fs ih =>
    have e : sumF (g :: fs) = g.1.size + g.2.2.length + sumF fs := by simp [sumF]
    rcases List.mem_cons.1 h with rfl | h
    · omega
    · have := ih h; omega
section
set_option maxRecDepth 100000
set_option maxHeartbeats 4000000
theorem few_any (A : Option Addr) (c : Nat) (fs : List Fc) (m : Int) (w : World) (hl : fs.length ≤ 1099511627776) (hs : sumF fs ≤ 4611686018427387904) (hr : RF w w.heap.size A fs) :
    Calls Try.prog 26 #[.slice A fs.length c, .int .i64 m] w fun e w' => e = .returned (.bool (decide ((fs.length : Int) ≤ m) && decide (sumF fs ≤ 131072))) ∧ Below w.heap.size w w' := by
  have Hr := Lib.hid hr
  have hl' : ((fs.length : Nat) : Int) ≤ 1099511627776 := by omega
  have Hlen : Hid (∀ k : Nat, k < fs.length → ∃ u, fs[k]? = some u) := fun k hk => ⟨_, List.getElem?_eq_getElem hk⟩
  obtain ⟨n, hn⟩ : ∃ n, n = fs.length := ⟨_, rfl⟩
  rw [← hn] at hl' Hlen ⊢
  have Hn := Lib.hid hn
  have Hs := Lib.hid hs
  obtain ⟨sf, hsf⟩ : ∃ sf, sf = sumF fs := ⟨_, rfl⟩
  rw [← hsf] at Hs ⊢
  have Hsf := Lib.hid hsf
  clear hr hl hn hs hsf
  go_enter Try.func26, Try.ntmps26
  go_wp2_with fail
  go_loopw [5, 6] (fun tv iv wr => ∃ i : Nat, iv = .int .i64 (i : Int) ∧ i ≤ n ∧ tv = .int .i64 ((sumF (fs.take i) : Nat) : Int) ∧ Hid (Below w.heap.size w wr)) (fun _ iv _ => n - (intOf iv).toNat)
  case atStart => exact ⟨0, rfl, Nat.zero_le _, rfl, Below.refl _ _⟩
  case round =>
    obtain ⟨i, rfl, hi, rfl, hg⟩ := hrel
    by_cases hlt : i < n
    · obtain ⟨f, hf⟩ := Hlen.out i hlt
      obtain ⟨b, o, V, rfl, hblt, c0, c1, c2, ⟨A2, cv, rfl, _⟩, _⟩ := (Hr.out.below hg.out).at_ hf
      have hlt' : (i : Int) < (n : Int) := by omega
      have ht := sumF_take hf
      have hle := sumF_le fs (i + 1)
      rw [← Hsf.out] at hle
      obtain ⟨k, s, x⟩ := f
      dsimp only at c0 c1 c2 ht
      generalize sumF (fs.take i) = tt at *
      have hw1 : IntKind.i64.wrap ((tt : Int) + (k.size : Int)) = (tt : Int) + (k.size : Int) := by rw [IntKind.wrap_i64]; have := Hs.out; omega
      have hw2 : IntKind.i64.wrap ((tt : Int) + (k.size : Int) + (x.length : Int)) = (tt : Int) + (k.size : Int) + (x.length : Int) := by rw [IntKind.wrap_i64]; have := Hs.out; omega
      have Ht : Hid ((tt : Int) + (k.size : Int) + (x.length : Int) = ((sumF (fs.take (i + 1)) : Nat) : Int)) := by show _ = _; rw [ht]; omega
      have Hg := hg
      clear hf hg hlt Hlen ht hle c1
      go_upto_region 5 with fail
      go_quiet (fail)
      go_wp2_with fail
      go_roundw
      case rel => exact ⟨i + 1, by go_num, by omega, by rw [Ht.out], below_dr Hg.out nq⟩
      case measure => simp [intOf]; omega
    · obtain rfl : i = n := by omega
      have ht : sumF (fs.take i) = sf := by rw [Hsf.out, Hn.out, List.take_of_length_le (Nat.le_refl _)]
      rw [ht]
      have Hg := hg
      clear hg ht
      by_cases hm : (i : Int) ≤ m
      · by_cases hs : sf ≤ 131072
        · have hs' : (sf : Int) ≤ 131072 := by omega
          go_wp2_with fail
          go_ret
          exact ⟨by simp [hm, hs], Hg.out⟩
        · have hs' : ¬ (sf : Int) ≤ 131072 := by omega
          go_wp2_with fail
          go_ret
          exact ⟨by simp [hm, hs], Hg.out⟩
      · go_wp2_with fail
        go_ret
        exact ⟨by rw [decide_eq_false (p := (i : Int) ≤ m) (by omega)]; rfl, Hg.out⟩
end
end Go.Proofs.Ytghcfmkmndldoaa
