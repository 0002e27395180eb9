/-
  The law's device: all bytes, persisting, cutting, making.
-/
import Derived.Test.YtoeeppecinjiiaaNv11
namespace Go.Proofs.Ytoeeppecinjiiaa
open Go.RowKit

section
variable {w w1 : World} {Q : Nat → Option Tag} {rd : Nat} {R : Ref}
theorem RefAt.reset {v : Value} {K : List UInt8} (h : RefAt w Q rd R) (ho : Own w1 w.heap.size v K) (hb : Below w.heap.size w w1) (hl : K.length = R.kept.length) :
    RefPost w Q rd ⟨K, []⟩ (.tuple #[]) (.returned (.tuple #[])) ((w1.setCell ⟨rd, 0, none⟩ v).setCell ⟨rd, 1, none⟩ (.slice none 0 0)) := by
  obtain ⟨kv, lv, c, t, k1, k2, l1, l2⟩ := h.cells
  have hrd := c.lt
  have hv : ∀ g, v.ownBlock = some g → w.heap.size ≤ g ∧ g < w1.heap.size := fun g hg => Own.lt ho g hg
  have hsz : ((w1.setCell ⟨rd, 0, none⟩ v).setCell ⟨rd, 1, none⟩ (.slice none 0 0)).heap.size = w1.heap.size := by simp [World.setCell]
  have hk : Kept (fun b => b ≠ rd) w1 ((w1.setCell ⟨rd, 0, none⟩ v).setCell ⟨rd, 1, none⟩ (.slice none 0 0)) := ((Kept.refl _ w1).setCell (fun h => h rfl) _).setCell (fun h => h rfl) _
  have hk0 : Kept (fun b => b ≠ rd) w ((w1.setCell ⟨rd, 0, none⟩ v).setCell ⟨rd, 1, none⟩ (.slice none 0 0)) := ⟨hk.os.trans hb.os, hk.tape.trans hb.tape, hk.output.trans hb.output, Nat.le_trans hb.size hk.size, fun b hb' hn => (hk.block b (Nat.lt_of_lt_of_le hb' hb.size) hn).trans (hb.block b hb')⟩
  refine ⟨fun b => if b < w.heap.size then Q b else if v.ownBlock = some b then some .bytes else none, rfl, ⟨fun b hq => ?_, ⟨v, .slice none 0 0, ?_, ?_, ?_, fun g hg => ?_, ?_, fun g hg => by cases hg⟩, by show 1 ≤ K.length; rw [hl]; exact h.low, by show K.length ≤ _; rw [hl]; exact h.high, fun p hp => by cases hp⟩, hk0.mono (fun b _ hq e => by rw [e, t] at hq; cases hq), fun b hlt => by show (if _ then _ else _) = _; rw [if_pos hlt]⟩
  · rw [hsz]
    by_cases q1 : b < w.heap.size
    · exact Nat.lt_of_lt_of_le q1 hb.size
    · simp only [if_neg q1] at hq
      by_cases q2 : v.ownBlock = some b
      · exact (hv b q2).2
      · rw [if_neg q2] at hq; exact absurd rfl hq
  · exact ((c.move (hb.block rd hrd)).set 0 v).set 1 _
  · show (if _ then _ else _) = _
    rw [if_pos hrd]; exact t
  · exact (Own.move ho fun g hg => hk.block g (hv g hg).2 (by have := hv g hg; omega)).wide (Nat.zero_le _)
  · show (if _ then _ else _) = _
    have := hv g hg
    rw [if_neg (by omega), if_pos hg]
  · exact World.ownsRow_nil _ 0 _ _
end

section
set_option maxRecDepth 20000
set_option maxHeartbeats 2000000
theorem all_any (rd : Nat) (R : Ref) (Q : Nat → Option Tag) (w : World) (h : RefAt w Q rd R) (hl : R.l.length ≤ 1099511627776) :
    Calls Try.prog 22 #[.pointer (some ⟨rd, 0, none⟩)] w (TellPost w R.all) := by
  have e : R.all = R.now R.l.length := by unfold Ref.all Ref.now; rw [List.take_length]
  rw [e]
  have Hc := Lib.hid (now_any rd R.l.length R Q w h (Nat.le_refl _) hl)
  obtain ⟨kv, lv, c, t, k1, k2, l1, l2⟩ := h.cells
  obtain ⟨Al, cl, rfl, _⟩ := ownsRow_rd l1
  have c1 := c.cell (i := 1) rfl
  generalize R.now R.l.length = K at *
  generalize R.l.length = M at *
  clear h c t k1 k2 l1 l2 e hl
  go_enter Try.func22, Try.ntmps22
  go_wp2_with (go_at_call 25; refine Hc.out.mono ?_; rintro e w1 ⟨v, rfl, hv, hb⟩; have Hv := Lib.hid hv; have Hb := Lib.hid hb; clear hv hb)
  go_ret
  exact ⟨v, rfl, Hv.out, Hb.out⟩

theorem rpersist_any (rd : Nat) (R : Ref) (Q : Nat → Option Tag) (w : World) (h : RefAt w Q rd R) (hl : R.l.length ≤ 1099511627776) :
    Calls Try.prog 15 #[.pointer (some ⟨rd, 0, none⟩)] w (RefPost w Q rd R.persist (.tuple #[])) := by
  have Hc := Lib.hid (all_any rd R Q w h hl)
  obtain ⟨kv, lv, c, t, k1, k2, l1, l2⟩ := h.cells
  have Hfin : Hid (∀ v w1, Own w1 w.heap.size v R.all → Below w.heap.size w w1 → (∃ A n c, v = .slice A n c) ∧ w1.cell? ⟨rd, 0, none⟩ = some kv ∧ w1.cell? ⟨rd, 1, none⟩ = some lv ∧ w1.frozen? ⟨rd, 0, none⟩ = false ∧ w1.frozen? ⟨rd, 1, none⟩ = false ∧ RefPost w Q rd R.persist (.tuple #[]) (.returned (.tuple #[])) ((w1.setCell ⟨rd, 0, none⟩ v).setCell ⟨rd, 1, none⟩ (.slice none 0 0))) := by
    intro v w1 ho hb
    have cn := c.move (hb.block rd c.lt)
    obtain ⟨A, cc, e, _⟩ := Own.rb ho
    exact ⟨⟨_, _, _, e⟩, cn.cell rfl, cn.cell rfl, cn.frozen 0, cn.frozen 1, h.reset ho hb (lay_length _ _)⟩
  clear h c t k1 k2 l1 l2 hl
  generalize R.all = K at *
  go_enter Try.func15, Try.ntmps15
  go_wp2_with (go_at_call 22; refine Hc.out.mono ?_; rintro e w1 ⟨v, rfl, hv, hb⟩; obtain ⟨⟨A, n, cc, rfl⟩, x0, x1, f0, f1, hq⟩ := Hfin.out v w1 hv hb; have Hq := Lib.hid hq; clear hv hb hq)
  go_end0
  exact Hq.out

theorem rcut_any (rd : Nat) (R : Ref) (Q : Nat → Option Tag) (A : Option Addr) (cp : Nat) (picks : List Int) (w : World) (h : RefAt w Q rd R) (hR : RI w w.heap.size A picks) (hl : R.l.length ≤ 1099511627776) (hpl : picks.length ≤ 9223372036854775807) :
    Calls Try.prog 11 #[.pointer (some ⟨rd, 0, none⟩), .slice A picks.length cp] w (RefPost w Q rd (R.cut (keptOf R.l.length picks)) (.tuple #[])) := by
  obtain ⟨kept, hkept⟩ : ∃ kept, kept = keptOf R.l.length picks := ⟨_, rfl⟩
  have hkl := keptOf_le R.l.length picks
  rw [← hkept] at hkl ⊢
  have Hc := Lib.hid (now_any rd kept R Q w h hkl hl)
  have Hc2 : Hid (∀ q, Calls Try.prog 25 #[.pointer (some ⟨rd, 0, none⟩), .int .i64 (kept : Int)] (w.drewN q) (TellPost w (R.now kept))) := fun q =>
    (now_any rd kept R Q (w.drewN q) (h.kept_ ((Kept.refl _ w).drewN q)) hkl hl).mono fun e w' ⟨v, he, ho, hb⟩ => ⟨v, he, ho, ⟨hb.os, hb.tape, hb.output, hb.size, hb.block⟩⟩
  obtain ⟨kv, lv, c, t, k1, k2, l1, l2⟩ := h.cells
  have Hfin : Hid (∀ v w1, Own w1 w.heap.size v (R.now kept) → Below w.heap.size w w1 → (∃ A n c, v = .slice A n c) ∧ w1.cell? ⟨rd, 0, none⟩ = some kv ∧ w1.cell? ⟨rd, 1, none⟩ = some lv ∧ w1.frozen? ⟨rd, 0, none⟩ = false ∧ w1.frozen? ⟨rd, 1, none⟩ = false ∧ RefPost w Q rd (R.cut kept) (.tuple #[]) (.returned (.tuple #[])) ((w1.setCell ⟨rd, 0, none⟩ v).setCell ⟨rd, 1, none⟩ (.slice none 0 0))) := by
    intro v w1 ho hb
    have cn := c.move (hb.block rd c.lt)
    obtain ⟨A, cc, e, _⟩ := Own.rb ho
    exact ⟨⟨_, _, _, e⟩, cn.cell rfl, cn.cell rfl, cn.frozen 0, cn.frozen 1, h.reset ho hb (lay_length _ _)⟩
  obtain ⟨Al, cl, rfl, _⟩ := ownsRow_rd l1
  have c1 := c.cell (i := 1) rfl
  have hcase : (picks = [] ∧ kept = 0) ∨ (∃ x r, picks = x :: r ∧ ((x < 0 ∧ kept = 0) ∨ (0 ≤ x ∧ x.tmod ((R.l.length : Int) + 1) = (kept : Int)))) := by
    rcases picks with _ | ⟨x, r⟩
    · refine .inl ⟨rfl, ?_⟩
      rw [hkept]
      rfl
    · refine .inr ⟨x, r, rfl, ?_⟩
      by_cases hx : 0 < x
      · refine .inr ⟨by omega, ?_⟩
        have h1 := Int.emod_nonneg x (show (R.l.length : Int) + 1 ≠ 0 by omega)
        rw [Int.tmod_eq_emod_of_nonneg (by omega), hkept]
        unfold keptOf
        rw [if_pos (show 0 < (x :: r).headD 0 from hx)]
        show _ = ((x % ((R.l.length : Int) + 1)).toNat : Int)
        omega
      · have hk0 : kept = 0 := by
          rw [hkept]
          unfold keptOf
          rw [if_neg (show ¬ 0 < (x :: r).headD 0 from hx)]
        by_cases hx0 : x = 0
        · subst hx0
          exact .inr ⟨Int.le_refl _, by rw [hk0]; simp⟩
        · exact .inl ⟨by omega, hk0⟩
  have hw1 : IntKind.i64.wrap ((R.l.length : Int) + 1) = (R.l.length : Int) + 1 := IntWalk.i64_in _ (by omega)
  have hne : ((R.l.length : Int) + 1) ≠ 0 := by omega
  have hM : (R.l.length : Int) ≤ 1099511627776 := by omega
  generalize R.now kept = K at *
  generalize R.cut kept = R2 at *
  generalize R.l.length = M at *
  have hM0 : (0 : Int) ≤ (M : Int) := by omega
  clear h c t k1 k2 l1 l2 hl hkept hkl
  rcases hcase with ⟨rfl, hk0⟩ | ⟨x, r, rfl, ⟨hx, hk0⟩ | ⟨hx, hk0⟩⟩
  · subst hk0
    go_enter Try.func11, Try.ntmps11
    go_wp2_with (go_at_call 25; refine Hc.out.mono ?_; rintro e w1 ⟨v, rfl, hv, hb⟩; obtain ⟨⟨A9, n9, c9, rfl⟩, x0, x1, f0, f1, hq⟩ := Hfin.out v w1 hv hb; have Hq := Lib.hid hq; clear hv hb hq)
    go_end0
    exact Hq.out
  · subst hk0
    obtain ⟨ab, ao, rfl, _⟩ := hR.flat (by simp)
    have hx0 : w.cell? ⟨ab, ao, none⟩ = some (.int .i64 x) := by have := hR.at_ (k := 0) (by simp); simpa using this
    have hln : (0 : Int) < ((x :: r).length : Int) := by rw [List.length_cons]; omega
    generalize (x :: r).length = pn at *
    go_enter Try.func11, Try.ntmps11
    go_wp2_with (go_at_call 25; refine Hc.out.mono ?_; rintro e w1 ⟨v, rfl, hv, hb⟩; obtain ⟨⟨A9, n9, c9, rfl⟩, x0, x1, f0, f1, hq⟩ := Hfin.out v w1 hv hb; have Hq := Lib.hid hq; clear hv hb hq)
    go_end0
    exact Hq.out
  · skip
    obtain ⟨ab, ao, rfl, _⟩ := hR.flat (by simp)
    have hx0 : w.cell? ⟨ab, ao, none⟩ = some (.int .i64 x) := by have := hR.at_ (k := 0) (by simp); simpa using this
    have hln : (0 : Int) < ((x :: r).length : Int) := by rw [List.length_cons]; omega
    generalize (x :: r).length = pn at *
    go_enter Try.func11, Try.ntmps11
    go_wp2_with fail
    go_quiet (fail)
    go_wp2_with (go_at_call 25; refine (Hc2.out _).mono ?_; rintro e w1 ⟨v, rfl, hv, hb⟩; obtain ⟨⟨A9, n9, c9, rfl⟩, x0, x1, f0, f1, hq⟩ := Hfin.out v w1 hv hb; have Hq := Lib.hid hq; clear hv hb hq)
    go_end0
    exact Hq.out
end
end Go.Proofs.Ytoeeppecinjiiaa
