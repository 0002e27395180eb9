/-
  Do parts fit? One write's undoing.
-/
import Derived.Test.YtoeeppecinjiiaaNv2
import Derived.StillTailTactics
namespace Go.Proofs.Ytoeeppecinjiiaa
open Go.RowKit

/-- parts of bytes in a row of slices -/
def PartsAt (w : World) (pb : Nat) (ls : List (List UInt8)) : Prop := ∀ (k : Nat) l, ls[k]? = some l → ∃ A c, w.cell? ⟨pb, k, none⟩ = some (.slice A l.length c) ∧ RB w w.heap.size A l ∧ (l ≠ [] → ∀ ad, A = some ad → ad.block < w.heap.size)
def total (ls : List (List UInt8)) : Nat := (ls.map List.length).sum
theorem total_take (ls : List (List UInt8)) (k : Nat) (l : List UInt8) (h : ls[k]? = some l) : total (ls.take (k + 1)) = total (ls.take k) + l.length := by
  have hk := (List.getElem?_eq_some_iff.1 h).1
  have hx := (List.getElem?_eq_some_iff.1 h).2
  unfold total
  rw [List.take_succ_eq_append_getElem hk, hx]
  simp
theorem total_le (ls : List (List UInt8)) (k : Nat) : total (ls.take k) ≤ total ls := by
  have : total ls = total (ls.take k) + total (ls.drop k) := by
    unfold total
    rw [← List.sum_append, ← List.map_append, List.take_append_drop]
  omega
def fitB (N : Nat) (at_ : Int) (ls : List (List UInt8)) : Bool := decide (0 ≤ at_ ∧ at_ + (total ls : Int) ≤ (N : Int))

set_option maxRecDepth 20000 in
set_option maxHeartbeats 1000000 in
theorem fit_any (nv N : Nat) (A : Option Addr) (c : Nat) (at_ : Int) (pb pc : Nat) (ls : List (List UInt8)) (w : World) (h : w.cell? ⟨nv, 1, none⟩ = some (.slice A N c)) (hN : N ≤ 67108864) (ha : at_ ≤ 9223372036854775807) (hp : PartsAt w pb ls) (hl : ls.length ≤ 1048576) :
    Calls Try.prog 26 #[.pointer (some ⟨nv, 0, none⟩), .int .i64 at_, .slice (some ⟨pb, 0, none⟩) ls.length pc] w fun e w' => e = .returned (.bool (fitB N at_ ls)) ∧ w = w' := by
  have Hh : Hid (∀ a n : Int, a ≤ 9223372036854775807 → Calls Try.prog 31 #[.pointer (some ⟨nv, 0, none⟩), .int .i64 a, .int .i64 n] w fun e w' => e = .returned (.bool (hasB N a n)) ∧ w = w') := fun a n q => has_any nv N A c a n w h hN q
  have Hp := Lib.hid hp
  obtain ⟨L, hL⟩ : ∃ L, L = ls.length := ⟨_, rfl⟩
  have HL := Lib.hid hL
  have hL1 : (L : Int) ≤ 1048576 := by omega
  rw [← hL]
  have hN' : (N : Int) ≤ 67108864 := by omega
  have Hst : Hid ((at_ + (total (ls.take 0) : Int) = at_) ∧ True) := ⟨by simp [total], trivial⟩
  clear hp hL hl h
  go_enter Try.func26, Try.ntmps26
  go_wp2_with fail
  go_loopw [1, 11] (fun av kv wr => ∃ (a : Int) (k : Nat), av = .int .i64 a ∧ kv = .int .i64 (k : Int) ∧ k ≤ L ∧ (k = 0 ∨ a ≤ (N : Int)) ∧ Hid (a = at_ + (total (ls.take k) : Int) ∧ (k = 0 ∨ 0 ≤ at_)) ∧ w = wr) (fun _ kv _ => L - (intOf kv).toNat)
  case atStart => exact ⟨at_, 0, rfl, rfl, Nat.zero_le _, .inl rfl, ⟨Hst.out.1.symm, .inl rfl⟩, rfl⟩
  case round =>
    obtain ⟨a, k, rfl, rfl, hk, hka, hrel, rfl⟩ := hrel
    have haa : a ≤ 9223372036854775807 := by
      rcases hka with h0 | h1
      · have := hrel.out.1
        rw [h0] at this
        have h2 := Hst.out.1
        omega
      · omega
    by_cases hlt : k < L
    · obtain ⟨l, hx⟩ : ∃ l, ls[k]? = some l := ⟨_, List.getElem?_eq_getElem (by rw [← HL.out]; exact hlt)⟩
      obtain ⟨Al, cl, hc, _⟩ := Hp.out k l hx
      have hk' : (k : Int) < (L : Int) := by omega
      have Hc := Lib.hid (Hh.out a (l.length : Int) haa)
      by_cases hb : hasB N a (l.length : Int) = true
      · rw [hb] at Hc
        obtain ⟨q1, q2, q3⟩ := of_decide_eq_true hb
        have ht := total_take ls k l hx
        have hnext : Hid (a + (l.length : Int) = at_ + (total (ls.take (k + 1)) : Int) ∧ (k + 1 = 0 ∨ 0 ≤ at_)) := by
          have h1 := hrel.out.1
          refine ⟨by omega, .inr ?_⟩
          rcases hrel.out.2 with h2 | h2
          · rw [h2] at h1
            have h3 := Hst.out.1
            omega
          · exact h2
        have hw : IntKind.i64.wrap (a + (l.length : Int)) = a + (l.length : Int) := IntWalk.i64_in _ (by omega)
        have hal : a + (l.length : Int) ≤ (N : Int) := by omega
        generalize l.length = m at *
        clear hb hx ht q3 hka hlt
        go_wp2_with (go_at_call 31; refine Hc.out.mono ?_; rintro e w1 ⟨rfl, rfl⟩)
        go_roundw
        case rel => exact ⟨_, k + 1, rfl, by go_num, by omega, .inr hal, hnext.out, (by first | trivial | rfl)⟩
        case measure => simp [intOf]; omega
      · have hb' : hasB N a (l.length : Int) = false := by simpa using hb
        rw [hb'] at Hc
        have Hf : Hid (fitB N at_ ls = false) := by
          refine decide_eq_false fun q => ?_
          have h1 := total_le ls (k + 1)
          have h2 := total_take ls k l hx
          have h3 := hrel.out.1
          refine hb (decide_eq_true ⟨by omega, by omega, by omega⟩)
        clear hb hx hlt hb'
        generalize l.length = m at *
        go_wp2_with (go_at_call 31; refine Hc.out.mono ?_; rintro e w1 ⟨rfl, rfl⟩)
        go_ret
        exact ⟨by rw [Hf.out]; rfl, rfl⟩
    · obtain rfl : k = L := by omega
      have Hc := Lib.hid (Hh.out a 0 haa)
      have Hf : Hid (fitB N at_ ls = hasB N a 0) := by
        have h3 := hrel.out.1
        rw [HL.out, List.take_length] at h3
        show fitB N at_ ls = hasB N a 0
        unfold fitB hasB
        rw [h3]
        have h4 := hrel.out.2
        have hz : ls.length = 0 → total ls = 0 := fun e => by rw [List.eq_nil_of_length_eq_zero e]; rfl
        have hl0 := HL.out
        by_cases q : 0 ≤ at_ ∧ at_ + (total ls : Int) ≤ (N : Int)
        · rw [decide_eq_true q, decide_eq_true ⟨by omega, Int.le_refl _, by omega⟩]
        · rw [decide_eq_false q, decide_eq_false]
          rintro ⟨r1, _, r2⟩
          rcases h4 with h4 | h4
          · have := hz (by omega)
            exact q ⟨by omega, by omega⟩
          · exact q ⟨h4, by omega⟩
      clear hlt
      go_wp2_with (go_at_call 31; refine Hc.out.mono ?_; rintro e w1 ⟨rfl, rfl⟩)
      go_ret
      exact ⟨by rw [Hf.out]; rfl, rfl⟩

/-- what of a write is kept -/
def ownOf (kept ahead n : Nat) : Nat := min (kept - ahead) n
set_option maxRecDepth 20000 in
set_option maxHeartbeats 1000000 in
theorem undo_any (kept a7 a6 a3 a4 nv bb c ahead at_ : Nat) (A : Option Addr) (was mem : List UInt8) (w : World) (c7 : w.cell? ⟨a7, 0, none⟩ = some (.int .i64 (ahead : Int))) (c6 : w.cell? ⟨a6, 0, none⟩ = some (.slice A was.length c)) (c3 : w.cell? ⟨a3, 0, none⟩ = some (.pointer (some ⟨nv, 0, none⟩))) (c4 : w.cell? ⟨a4, 0, none⟩ = some (.int .i64 (at_ : Int)))
    (cm : w.cell? ⟨nv, 1, none⟩ = some (.slice (some ⟨bb, 0, none⟩) mem.length mem.length)) (hb : Blk w bb mem) (hr : RB w w.heap.size A was) (hc : was.length ≤ c) (h1 : 1 ≤ was.length) (hf : at_ + was.length ≤ mem.length) (hm : mem.length ≤ 67108864) (hk : kept ≤ 1099511627776) (ha : ahead ≤ 1099511627776) (hcm : c ≤ 9223372036854775807) :
    Calls Try.prog 34 #[.int .i64 (kept : Int), .pointer (some ⟨a7, 0, none⟩), .pointer (some ⟨a6, 0, none⟩), .pointer (some ⟨a3, 0, none⟩), .pointer (some ⟨a4, 0, none⟩)] w fun e w' => e = .returned (.tuple #[]) ∧
      Blk w' bb (splat mem (at_ + ownOf kept ahead was.length) (was.drop (ownOf kept ahead was.length))) ∧ Kept (fun b => b ≠ bb) w w' := by
  obtain ⟨ab, ao, rfl, _⟩ := hr.flat (by omega)
  have hm' : (mem.length : Int) ≤ 67108864 := by omega
  have hcm' : (c : Int) ≤ 9223372036854775807 := by omega
  have hw1 : IntKind.i64.wrap ((kept : Int) - (ahead : Int)) = (kept : Int) - (ahead : Int) := IntWalk.i64_in _ (by omega)
  have hl1 : (0 : Int) < (was.length : Int) := by omega
  by_cases hlt : was.length < kept - ahead
  · have e1 : ownOf kept ahead was.length = was.length := Nat.min_eq_right (by omega)
    have g1' : (0 : Int) ≤ (kept : Int) - (ahead : Int) := by omega
    have g2' : (was.length : Int) < (kept : Int) - (ahead : Int) := by omega
    clear hlt
    have e2 : was.drop was.length = [] := by simp
    rw [e1, e2, splat_nil]
    have hz : ∀ (W : World) (A1 A2 : Option Addr) (n1 c1 c2 : Nat), (Builtin.copy_ #[35, 35] 3 #[.slice A1 n1 c1, .slice A2 0 c2]).run Try.prog W = .ok (.int .i64 0) W :=
      fun W A1 A2 n1 c1 c2 => run_copy_none (P := Try.prog) W _ _ 3 5 _ _ _ _ _ _ Try.underlying35 size8 (by simp)
    have Hb : Hid (Blk w.drew bb mem) := hb
    have Hk : Hid (Kept (fun b => b ≠ bb) w w.drew) := (Kept.refl _ w).drew
    have g3 : (at_ : Int) + (was.length : Int) ≤ (mem.length : Int) := by omega
    have g4 : (was.length : Int) ≤ (c : Int) := by omega
    generalize was.length = n at *
    generalize mem.length = N at *
    have hwa : IntKind.i64.wrap ((at_ : Int) + (n : Int)) = (at_ : Int) + (n : Int) := IntWalk.i64_in _ (by omega)
    have hwb : (0 : Int) ≤ (at_ : Int) + (n : Int) := by omega
    have hwc : ((at_ : Int) + (n : Int)).toNat = at_ + n := by omega
    have q1 : N = at_ + n ∨ (at_ + n < N ∧ (at_ : Int) + (n : Int) < (N : Int)) := by omega
    have q2 : c = n ∨ (n < c ∧ (n : Int) < (c : Int)) := by omega
    clear hr hb e1 e2
    rcases q1 with rfl | ⟨q1, q1'⟩ <;> rcases q2 with rfl | ⟨q2, q2'⟩
    all_goals
      go_enter Try.func34, Try.ntmps34
      go_wp2_with fail
      go_still_tail 11, (by kernel_rfl)
      all_goals
        change wpList _ _ _ _ _ w.drew
        go_wp2_with fail
        go_end0
        exact ⟨rfl, Hb.out, Hk.out⟩
  by_cases heq : kept - ahead = was.length
  · have e1 : ownOf kept ahead was.length = was.length := by unfold ownOf; omega
    obtain rfl : kept = ahead + was.length := by omega
    clear hw1
    have hsub : (ahead : Int) + (was.length : Int) - (ahead : Int) = (was.length : Int) := by omega
    have hw1 : IntKind.i64.wrap (was.length : Int) = (was.length : Int) := IntWalk.i64_in _ (by omega)
    clear hlt heq
    have e2 : was.drop was.length = [] := by simp
    rw [e1, e2, splat_nil]
    have hz : ∀ (W : World) (A1 A2 : Option Addr) (n1 c1 c2 : Nat), (Builtin.copy_ #[35, 35] 3 #[.slice A1 n1 c1, .slice A2 0 c2]).run Try.prog W = .ok (.int .i64 0) W :=
      fun W A1 A2 n1 c1 c2 => run_copy_none (P := Try.prog) W _ _ 3 5 _ _ _ _ _ _ Try.underlying35 size8 (by simp)
    have Hb : Hid (Blk w.drew bb mem) := hb
    have Hk : Hid (Kept (fun b => b ≠ bb) w w.drew) := (Kept.refl _ w).drew
    have g3 : (at_ : Int) + (was.length : Int) ≤ (mem.length : Int) := by omega
    have g4 : (was.length : Int) ≤ (c : Int) := by omega
    generalize was.length = n at *
    generalize mem.length = N at *
    have hwa : IntKind.i64.wrap ((at_ : Int) + (n : Int)) = (at_ : Int) + (n : Int) := IntWalk.i64_in _ (by omega)
    have hwb : (0 : Int) ≤ (at_ : Int) + (n : Int) := by omega
    have hwc : ((at_ : Int) + (n : Int)).toNat = at_ + n := by omega
    have q1 : N = at_ + n ∨ (at_ + n < N ∧ (at_ : Int) + (n : Int) < (N : Int)) := by omega
    have q2 : c = n ∨ (n < c ∧ (n : Int) < (c : Int)) := by omega
    clear hr hb e1 e2
    rcases q1 with rfl | ⟨q1, q1'⟩ <;> rcases q2 with rfl | ⟨q2, q2'⟩
    all_goals
      go_enter Try.func34, Try.ntmps34
      go_wp2_with fail
      go_still_tail 11, (by kernel_rfl)
      all_goals
        change wpList _ _ _ _ _ w.drew
        go_wp2_with fail
        go_end0
        exact ⟨rfl, Hb.out, Hk.out⟩
  by_cases hpos : ahead ≤ kept
  · obtain ⟨own, how⟩ : ∃ own, own = kept - ahead := ⟨_, rfl⟩
    have e1 : ownOf kept ahead was.length = own := by unfold ownOf; omega
    rw [e1]
    have h0 : own < was.length := by omega
    obtain rfl : kept = ahead + own := by omega
    clear hw1 e1 hlt heq
    have hsub : (ahead : Int) + (own : Int) - (ahead : Int) = (own : Int) := by omega
    have hw1 : IntKind.i64.wrap (own : Int) = (own : Int) := IntWalk.i64_in _ (by omega)
    have hd : (was.drop own).length = was.length - own := by simp
    obtain ⟨W', r1, r2, r3⟩ := copy_run w.drew bb (at_ + own) (mem.length - (at_ + own)) (mem.length - (at_ + own)) (some ⟨ab, ao + own, none⟩) (was.drop own) mem (c - own) w.heap.size (hr.cutFlat own) hb (by omega) (by omega)
    rw [hd] at r1
    have Hb := Lib.hid r2
    have Hk : Hid (Kept (fun b => b ≠ bb) w W') := ⟨r3.os, r3.tape, r3.output, r3.size, r3.block⟩
    have g3 : (at_ : Int) + (own : Int) < (mem.length : Int) := by omega
    have g4 : (own : Int) < (c : Int) := by omega
    have g5 : (own : Int) < (was.length : Int) := by omega
    have g3' : (at_ : Int) + (own : Int) ≤ (mem.length : Int) := by omega
    have g5' : (own : Int) ≤ (was.length : Int) := by omega
    have g4' : (own : Int) ≤ (c : Int) := by omega
    have hwn : ((was.length - own : Nat) : Int) = (was.length : Int) - (own : Int) := by omega
    generalize splat mem (at_ + own) (was.drop own) = mem2 at *
    have hwa : IntKind.i64.wrap ((at_ : Int) + (own : Int)) = (at_ : Int) + (own : Int) := IntWalk.i64_in _ (by omega)
    have hwb : (0 : Int) ≤ (at_ : Int) + (own : Int) := by omega
    have hwc : ((at_ : Int) + (own : Int)).toNat = at_ + own := by omega
    have q1 : at_ + own < mem.length := by omega
    have q2 : own < c := by omega
    generalize was.length = n at *
    generalize mem.length = N at *
    clear hr hb r2 r3 hd
    clear how hpos
    go_enter Try.func34, Try.ntmps34
    go_wp2_with fail
    go_still_tail 11, (by kernel_rfl)
    change wpList _ _ _ _ _ w.drew
    go_wp2_with fail
    go_end0
    exact ⟨rfl, Hb.out, Hk.out⟩
  · have e1 : ownOf kept ahead was.length = 0 := by unfold ownOf; omega
    have e2 : was.drop 0 = was := rfl
    rw [e1, e2, Nat.add_zero]
    have g0 : (kept : Int) - (ahead : Int) < 0 := by omega
    obtain ⟨W', r1, r2, r3⟩ := copy_run w.drew bb at_ (mem.length - at_) (mem.length - at_) (some ⟨ab, ao, none⟩) was mem c w.heap.size hr hb (by omega) (by omega)
    have Hb := Lib.hid r2
    have Hk : Hid (Kept (fun b => b ≠ bb) w W') := ⟨r3.os, r3.tape, r3.output, r3.size, r3.block⟩
    have g3 : (at_ : Int) < (mem.length : Int) := by omega
    have g3' : (at_ : Int) ≤ (mem.length : Int) := by omega
    have hwa : IntKind.i64.wrap (at_ : Int) = (at_ : Int) := IntWalk.i64_in _ (by omega)
    have q1 : at_ < mem.length := by omega
    have q2 : 0 < c := by omega
    have q2' : c ≠ 0 := by omega
    generalize splat mem at_ was = mem2 at *
    generalize was.length = n at *
    generalize mem.length = N at *
    clear hr hb r2 r3 e1 e2 hlt heq hpos
    go_enter Try.func34, Try.ntmps34
    go_wp2_with fail
    go_still_tail 11, (by kernel_rfl)
    change wpList _ _ _ _ _ w.drew
    go_wp2_with fail
    go_end0
    exact ⟨rfl, Hb.out, Hk.out⟩
end Go.Proofs.Ytoeeppecinjiiaa
