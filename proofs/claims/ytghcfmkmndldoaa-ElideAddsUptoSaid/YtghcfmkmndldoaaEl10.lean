/-
  sort.Search over any closure; count.
-/
import Derived.Test.YtghcfmkmndldoaaEl9
namespace Go.Proofs.Ytghcfmkmndldoaa
open Go.RowKit Go.Sort Go.Lib

/-- so many places are ahead of the first at which p holds -/
def SrchP (n : Nat) (p : Nat → Bool) (c : Nat) : Prop := c ≤ n ∧ (∀ i, i < c → p i = false) ∧ ∀ i, c ≤ i → i < n → p i = true
/-- a set in memory -/
structure SetAt (w : World) (base g : Nat) (out : List Ec) : Prop where
  cell : ∃ v, Cells w g 65 [v] ∧ OwnE w base v out
  plain : PlainE out
  ge : base ≤ g
  len : out.length ≤ 20000000000
theorem SetAt.below {w w' : World} {base g : Nat} {out : List Ec} (h : SetAt w base g out) (hb : Below w.heap.size w w') : SetAt w' base g out := by
  obtain ⟨v, h1, h2⟩ := h.cell
  exact ⟨⟨v, h1.move (hb.block _ h1.lt), h2.below hb⟩, h.plain, h.ge, h.len⟩
theorem SetAt.lt {w : World} {base g : Nat} {out : List Ec} (h : SetAt w base g out) : g < w.heap.size := by
  obtain ⟨v, h1, _⟩ := h.cell
  exact h1.lt
section
set_option maxRecDepth 100000
set_option maxHeartbeats 1000000
theorem search_any (b1 b2 : Nat) (n : Nat) (p : Nat → Bool) (w : World) (hn : n ≤ 1099511627776)
    (hf : ∀ (W : World) (i : Nat), Below w.heap.size w W → i < n → Calls Try.prog 56 #[.int .i64 (i : Int), .pointer (some ⟨b1, 0, none⟩), .pointer (some ⟨b2, 0, none⟩)] W fun r w' => r = .returned (.bool (p i)) ∧ Below W.heap.size W w')
    (hmono : ∀ a b, a ≤ b → b < n → p a = true → p b = true) :
    Calls Try.prog 55 #[.int .i64 (n : Int), .func (.func 56) #[] #[.pointer (some ⟨b1, 0, none⟩), .pointer (some ⟨b2, 0, none⟩)]] w fun r w' => ∃ c : Nat, r = .returned (.int .i64 (c : Int)) ∧ SrchP n p c ∧ Below w.heap.size w w' := by
  have HF := Lib.hid hf
  have HM := Lib.hid hmono
  clear hf hmono
  have hn2 : n < 4611686018427387904 := by omega
  clear hn
  go_enter Try.func55, Try.ntmps55
  go_wp2_with fail
  go_loopw [5, 6] (fun iv jv wr => ∃ i j : Nat, iv = .int .i64 (i : Int) ∧ jv = .int .i64 (j : Int) ∧ i ≤ j ∧ j ≤ n ∧ Hid ((∀ t, t < i → p t = false) ∧ (∀ t, j ≤ t → t < n → p t = true) ∧ Below w.heap.size w wr)) (fun iv jv _ => (intOf jv - intOf iv).toNat)
  case atStart => exact ⟨0, n, rfl, rfl, Nat.zero_le _, Nat.le_refl _, fun t ht => absurd ht (Nat.not_lt_zero _), fun t h1 h2 => absurd h2 (by omega), Below.refl _ _⟩
  case round =>
    obtain ⟨i, j, rfl, rfl, hij, hjn, hst⟩ := hrel
    by_cases hlt : i < j
    · have HH0 := HF.out wr ((i + j) / 2) hst.out.2.2 (by omega)
      rw [show (((i + j) / 2 : Nat) : Int) = ((i : Int) + (j : Int)) / 2 by omega] at HH0
      cases hp : p ((i + j) / 2) with
      | false =>
        rw [hp] at HH0
        have HH := Lib.hid HH0
        have HP : Hid (p ((i + j) / 2) = false) := hp
        clear hp HH0
        go_wp2_with (go_at_call 56; refine HH.out.mono ?_; rintro e w3 ⟨rfl, h3⟩; have H3 : Hid (Below w.heap.size w w3) := hst.out.2.2.trans (h3.mono hst.out.2.2.size); clear h3)
        go_roundw
        case rel =>
          refine ⟨(i + j) / 2 + 1, j, by rw [show ((i : Int) + (j : Int)) / 2 + 1 = (((i + j) / 2 + 1 : Nat) : Int) by omega], rfl, by omega, hjn, fun t ht => ?_, hst.out.2.1, H3.out⟩
          cases hpt : p t with
          | false => rfl
          | true => have := HM.out t ((i + j) / 2) (by omega) (by omega) hpt; rw [HP.out] at this; cases this
        case measure => simp [intOf]; omega
      | true =>
        rw [hp] at HH0
        have HH := Lib.hid HH0
        have HP : Hid (p ((i + j) / 2) = true) := hp
        clear hp HH0
        go_wp2_with (go_at_call 56; refine HH.out.mono ?_; rintro e w3 ⟨rfl, h3⟩; have H3 : Hid (Below w.heap.size w w3) := hst.out.2.2.trans (h3.mono hst.out.2.2.size); clear h3)
        go_roundw
        case rel => exact ⟨i, (i + j) / 2, rfl, by rw [show ((i : Int) + (j : Int)) / 2 = (((i + j) / 2 : Nat) : Int) by omega], by omega, by omega, hst.out.1, (fun t h1 h2 => HM.out _ t h1 h2 HP.out), H3.out⟩
        case measure => simp [intOf]; omega
    · obtain rfl : i = j := by omega
      have HP : Hid (SrchP n p i ∧ Below w.heap.size w wr) := ⟨⟨hjn, hst.out.1, hst.out.2.1⟩, hst.out.2.2⟩
      clear hst
      go_wp2_with fail
      go_ret
      exact ⟨i, rfl, HP.out⟩
end
end Go.Proofs.Ytghcfmkmndldoaa
