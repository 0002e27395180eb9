/-
  Do parts fit? One write's undoing.
-/
import Derived.Test.YtkjogkmdldplgaaDoorKNv1
import Derived.StillTailTactics
namespace Go.Proofs.YtkjogkmdldplgaaDoor
open Go.RowKit

/-- parts of bytes in a row of slices -/
def PartsAt (w : World) (pb : Nat) (ls : List (List UInt8)) : Prop := ∀ (k : Nat) l, ls[k]? = some l → ∃ A c, w.cell? ⟨pb, k, none⟩ = some (.slice A l.length c) ∧ RB w w.heap.size A l ∧ (l ≠ [] → ∀ ad, A = some ad → ad.block < w.heap.size)
def total (ls : List (List UInt8)) : Nat := (ls.map List.length).sum
theorem total_take (ls : List (List UInt8)) (k : Nat) (l : List UInt8) (h : ls[k]? = some l) : total (ls.take (k + 1)) = total (ls.take k) + l.length := by
  have hk := (List.getElem?_eq_some_iff.1 h).1
  have hx := (List.getElem?_eq_some_iff.1 h).2
  unfold total
  rw [List.take_succ_eq_append_getElem hk, hx]
  simp
theorem total_le (ls : List (List UInt8)) (k : Nat) : total (ls.take k) ≤ total ls := by
  have : total ls = total (ls.take k) + total (ls.drop k) := by
    unfold total
    rw [← List.sum_append, ← List.map_append, List.take_append_drop]
  omega
def fitB (N : Nat) (at_ : Int) (ls : List (List UInt8)) : Bool := decide (0 ≤ at_ ∧ at_ + (total ls : Int) ≤ (N : Int))

set_option maxRecDepth 20000 in
set_option maxHeartbeats 1000000 in
theorem fit_any (nv N : Nat) (A : Option Addr) (c : Nat) (at_ : Int) (pb pc : Nat) (ls : List (List UInt8)) (w : World) (h : w.cell? ⟨nv, 1, none⟩ = some (.slice A N c)) (hN : N ≤ 67108864) (ha : at_ ≤ 9223372036854775807) (hp : PartsAt w pb ls) (hl : ls.length ≤ 1048576) :
    Calls Tryd.prog 58 #[.pointer (some ⟨nv, 0, none⟩), .int .i64 at_, .slice (some ⟨pb, 0, none⟩) ls.length pc] w fun e w' => e = .returned (.bool (fitB N at_ ls)) ∧ w = w' := by
  have Hh : Hid (∀ a n : Int, a ≤ 9223372036854775807 → Calls Tryd.prog 33 #[.pointer (some ⟨nv, 0, none⟩), .int .i64 a, .int .i64 n] w fun e w' => e = .returned (.bool (hasB N a n)) ∧ w = w') := fun a n q => has_any nv N A c a n w h hN q
  have Hp := Lib.hid hp
  obtain ⟨L, hL⟩ : ∃ L, L = ls.length := ⟨_, rfl⟩
  have HL := Lib.hid hL
  have hL1 : (L : Int) ≤ 1048576 := by omega
  rw [← hL]
  have hN' : (N : Int) ≤ 67108864 := by omega
  have Hst : Hid ((at_ + (total (ls.take 0) : Int) = at_) ∧ True) := ⟨by simp [total], trivial⟩
  clear hp hL hl h
  go_enter Tryd.func58, Tryd.ntmps58
  go_wp2_with fail
  go_loopw [1, 11] (fun av kv wr => ∃ (a : Int) (k : Nat), av = .int .i64 a ∧ kv = .int .i64 (k : Int) ∧ k ≤ L ∧ (k = 0 ∨ a ≤ (N : Int)) ∧ Hid (a = at_ + (total (ls.take k) : Int) ∧ (k = 0 ∨ 0 ≤ at_)) ∧ w = wr) (fun _ kv _ => L - (intOf kv).toNat)
  case atStart => exact ⟨at_, 0, rfl, rfl, Nat.zero_le _, .inl rfl, ⟨Hst.out.1.symm, .inl rfl⟩, rfl⟩
  case round =>
    obtain ⟨a, k, rfl, rfl, hk, hka, hrel, rfl⟩ := hrel
    have haa : a ≤ 9223372036854775807 := by
      rcases hka with h0 | h1
      · have := hrel.out.1
        rw [h0] at this
        have h2 := Hst.out.1
        omega
      · omega
    by_cases hlt : k < L
    · obtain ⟨l, hx⟩ : ∃ l, ls[k]? = some l := ⟨_, List.getElem?_eq_getElem (by rw [← HL.out]; exact hlt)⟩
      obtain ⟨Al, cl, hc, _⟩ := Hp.out k l hx
      have hk' : (k : Int) < (L : Int) := by omega
      have Hc := Lib.hid (Hh.out a (l.length : Int) haa)
      by_cases hb : hasB N a (l.length : Int) = true
      · rw [hb] at Hc
        obtain ⟨q1, q2, q3⟩ := of_decide_eq_true hb
        have ht := total_take ls k l hx
        have hnext : Hid (a + (l.length : Int) = at_ + (total (ls.take (k + 1)) : Int) ∧ (k + 1 = 0 ∨ 0 ≤ at_)) := by
          have h1 := hrel.out.1
          refine ⟨by omega, .inr ?_⟩
          rcases hrel.out.2 with h2 | h2
          · rw [h2] at h1
            have h3 := Hst.out.1
            omega
          · exact h2
        have hw : IntKind.i64.wrap (a + (l.length : Int)) = a + (l.length : Int) := IntWalk.i64_in _ (by omega)
        have hal : a + (l.length : Int) ≤ (N : Int) := by omega
        generalize l.length = m at *
        clear hb hx ht q3 hka hlt
        go_wp2_with (go_at_call 33; refine Hc.out.mono ?_; rintro e w1 ⟨rfl, rfl⟩)
        go_roundw
        case rel => exact ⟨_, k + 1, rfl, by go_num, by omega, .inr hal, hnext.out, (by first | trivial | rfl)⟩
        case measure => simp [intOf]; omega
      · have hb' : hasB N a (l.length : Int) = false := by simpa using hb
        rw [hb'] at Hc
        have Hf : Hid (fitB N at_ ls = false) := by
          refine decide_eq_false fun q => ?_
          have h1 := total_le ls (k + 1)
          have h2 := total_take ls k l hx
          have h3 := hrel.out.1
          refine hb (decide_eq_true ⟨by omega, by omega, by omega⟩)
        clear hb hx hlt hb'
        generalize l.length = m at *
        go_wp2_with (go_at_call 33; refine Hc.out.mono ?_; rintro e w1 ⟨rfl, rfl⟩)
        go_ret
        exact ⟨by rw [Hf.out]; rfl, rfl⟩
    · obtain rfl : k = L := by omega
      have Hc := Lib.hid (Hh.out a 0 haa)
      have Hf : Hid (fitB N at_ ls = hasB N a 0) := by
        have h3 := hrel.out.1
        rw [HL.out, List.take_length] at h3
        show fitB N at_ ls = hasB N a 0
        unfold fitB hasB
        rw [h3]
        have h4 := hrel.out.2
        have hz : ls.length = 0 → total ls = 0 := fun e => by rw [List.eq_nil_of_length_eq_zero e]; rfl
        have hl0 := HL.out
        by_cases q : 0 ≤ at_ ∧ at_ + (total ls : Int) ≤ (N : Int)
        · rw [decide_eq_true q, decide_eq_true ⟨by omega, Int.le_refl _, by omega⟩]
        · rw [decide_eq_false q, decide_eq_false]
          rintro ⟨r1, _, r2⟩
          rcases h4 with h4 | h4
          · have := hz (by omega)
            exact q ⟨by omega, by omega⟩
          · exact q ⟨h4, by omega⟩
      clear hlt
      go_wp2_with (go_at_call 33; refine Hc.out.mono ?_; rintro e w1 ⟨rfl, rfl⟩)
      go_ret
      exact ⟨by rw [Hf.out]; rfl, rfl⟩

/-- what of a write is kept -/
def ownOf (kept ahead n : Nat) : Nat := min (kept - ahead) n
set_option maxRecDepth 20000 in
set_option maxHeartbeats 1000000 in
theorem undo_any (kept a7 a6 a3 a4 nv bb c ahead at_ : Nat) (A : Option Addr) (was mem : List UInt8) (w : World) (c7 : w.cell? ⟨a7, 0, none⟩ = some (.int .i64 (ahead : Int))) (c6 : w.cell? ⟨a6, 0, none⟩ = some (.slice A was.length c)) (c3 : w.cell? ⟨a3, 0, none⟩ = some (.pointer (some ⟨nv, 0, none⟩))) (c4 : w.cell? ⟨a4, 0, none⟩ = some (.int .i64 (at_ : Int)))
    (cm : w.cell? ⟨nv, 1, none⟩ = some (.slice (some ⟨bb, 0, none⟩) mem.length mem.length)) (hb : Blk w bb mem) (hr : RB w w.heap.size A was) (hc : was.length ≤ c) (h1 : 1 ≤ was.length) (hf : at_ + was.length ≤ mem.length) (hm : mem.length ≤ 67108864) (hk : kept ≤ 1099511627776) (ha : ahead ≤ 1099511627776) (hcm : c ≤ 9223372036854775807) :
    Calls Tryd.prog 65 #[.int .i64 (kept : Int), .pointer (some ⟨a7, 0, none⟩), .pointer (some ⟨a6, 0, none⟩), .pointer (some ⟨a3, 0, none⟩), .pointer (some ⟨a4, 0, none⟩)] w fun e w' => e = .returned (.tuple #[]) ∧
      Blk w' bb (splat mem (at_ + ownOf kept ahead was.length) (was.drop (ownOf kept ahead was.length))) ∧ Kept (fun b => b ≠ bb) w w' := by
  obtain ⟨ab, ao, rfl, _⟩ := hr.flat (by omega)
  have hm' : (mem.length : Int) ≤ 67108864 := by omega
  have hcm' : (c : Int) ≤ 9223372036854775807 := by omega
  have hw1 : IntKind.i64.wrap ((kept : Int) - (ahead : Int)) = (kept : Int) - (ahead : Int) := IntWalk.i64_in _ (by omega)
  have hl1 : (0 : Int) < (was.length : Int) := by omega
  by_cases hlt : was.length < kept - ahead
  · have e1 : ownOf kept ahead was.length = was.length := Nat.min_eq_right (by omega)
    have g1' : (0 : Int) ≤ (kept : Int) - (ahead : Int) := by omega
    have g2' : (was.length : Int) < (kept : Int) - (ahead : Int) := by omega
    clear hlt
    have e2 : was.drop was.length = [] := by simp
    rw [e1, e2, splat_nil]
    have hz : ∀ (W : World) (A1 A2 : Option Addr) (n1 c1 c2 : Nat), (Builtin.copy_ #[35, 35] 3 #[.slice A1 n1 c1, .slice A2 0 c2]).run Tryd.prog W = .ok (.int .i64 0) W :=
      fun W A1 A2 n1 c1 c2 => run_copy_none (P := Tryd.prog) W _ _ 3 5 _ _ _ _ _ _ Tryd.underlying35 size8 (by simp)
    have Hb : Hid (Blk w.drew bb mem) := hb
    have Hk : Hid (Kept (fun b => b ≠ bb) w w.drew) := (Kept.refl _ w).drew
    have g3 : (at_ : Int) + (was.length : Int) ≤ (mem.length : Int) := by omega
    have g4 : (was.length : Int) ≤ (c : Int) := by omega
    generalize was.length = n at *
    generalize mem.length = N at *
    have hwa : IntKind.i64.wrap ((at_ : Int) + (n : Int)) = (at_ : Int) + (n : Int) := IntWalk.i64_in _ (by omega)
    have hwb : (0 : Int) ≤ (at_ : Int) + (n : Int) := by omega
    have hwc : ((at_ : Int) + (n : Int)).toNat = at_ + n := by omega
    have q1 : N = at_ + n ∨ (at_ + n < N ∧ (at_ : Int) + (n : Int) < (N : Int)) := by omega
    have q2 : c = n ∨ (n < c ∧ (n : Int) < (c : Int)) := by omega
    clear hr hb e1 e2
    rcases q1 with rfl | ⟨q1, q1'⟩ <;> rcases q2 with rfl | ⟨q2, q2'⟩
    all_goals
      go_enter Tryd.func65, Tryd.ntmps65
      go_wp2_with fail
      go_still_tail 11, (by kernel_rfl)
      all_goals
        change wpList _ _ _ _ _ w.drew
        go_wp2_with fail
        go_end0
        exact ⟨rfl, Hb.out, Hk.out⟩
  by_cases heq : kept - ahead = was.length
  · have e1 : ownOf kept ahead was.length = was.length := by unfold ownOf; omega
    obtain rfl : kept = ahead + was.length := by omega
    clear hw1
    have hsub : (ahead : Int) + (was.length : Int) - (ahead : Int) = (was.length : Int) := by omega
    have hw1 : IntKind.i64.wrap (was.length : Int) = (was.length : Int) := IntWalk.i64_in _ (by omega)
    clear hlt heq
    have e2 : was.drop was.length = [] := by simp
    rw [e1, e2, splat_nil]
    have hz : ∀ (W : World) (A1 A2 : Option Addr) (n1 c1 c2 : Nat), (Builtin.copy_ #[35, 35] 3 #[.slice A1 n1 c1, .slice A2 0 c2]).run Tryd.prog W = .ok (.int .i64 0) W :=
      fun W A1 A2 n1 c1 c2 => run_copy_none (P := Tryd.prog) W _ _ 3 5 _ _ _ _ _ _ Tryd.underlying35 size8 (by simp)
    have Hb : Hid (Blk w.drew bb mem) := hb
    have Hk : Hid (Kept (fun b => b ≠ bb) w w.drew) := (Kept.refl _ w).drew
    have g3 : (at_ : Int) + (was.length : Int) ≤ (mem.length : Int) := by omega
    have g4 : (was.length : Int) ≤ (c : Int) := by omega
    generalize was.length = n at *
    generalize mem.length = N at *
    have hwa : IntKind.i64.wrap ((at_ : Int) + (n : Int)) = (at_ : Int) + (n : Int) := IntWalk.i64_in _ (by omega)
    have hwb : (0 : Int) ≤ (at_ : Int) + (n : Int) := by omega
    have hwc : ((at_ : Int) + (n : Int)).toNat = at_ + n := by omega
    have q1 : N = at_ + n ∨ (at_ + n < N ∧ (at_ : Int) + (n : Int) < (N : Int)) := by omega
    have q2 : c = n ∨ (n < c ∧ (n : Int) < (c : Int)) := by omega
    clear hr hb e1 e2
    rcases q1 with rfl | ⟨q1, q1'⟩ <;> rcases q2 with rfl | ⟨q2, q2'⟩
    all_goals
      go_enter Tryd.func65, Tryd.ntmps65
      go_wp2_with fail
      go_still_tail 11, (by kernel_rfl)
      all_goals
        change wpList _ _ _ _ _ w.drew
        go_wp2_with fail
        go_end0
        exact ⟨rfl, Hb.out, Hk.out⟩
  by_cases hpos : ahead ≤ kept
  · obtain ⟨own, how⟩ : ∃ own, own = kept - ahead := ⟨_, rfl⟩
    have e1 : ownOf kept ahead was.length = own := by unfold ownOf; omega
    rw [e1]
    have h0 : own < was.length := by omega
    obtain rfl : kept = ahead + own := by omega
    clear hw1 e1 hlt heq
    have hsub : (ahead : Int) + (own : Int) - (ahead : Int) = (own : Int) := by omega
    have hw1 : IntKind.i64.wrap (own : Int) = (own : Int) := IntWalk.i64_in _ (by omega)
    have hd : (was.drop own).length = was.length - own := by simp
    obtain ⟨W', r1, r2, r3⟩ := copy_run w.drew bb (at_ + own) (mem.length - (at_ + own)) (mem.length - (at_ + own)) (some ⟨ab, ao + own, none⟩) (was.drop own) mem (c - own) w.heap.size (hr.cutFlat own) hb (by omega) (by omega)
    rw [hd] at r1
    have Hb := Lib.hid r2
    have Hk : Hid (Kept (fun b => b ≠ bb) w W') := ⟨r3.os, r3.tape, r3.output, r3.size, r3.block⟩
    have g3 : (at_ : Int) + (own : Int) < (mem.length : Int) := by omega
    have g4 : (own : Int) < (c : Int) := by omega
    have g5 : (own : Int) < (was.length : Int) := by omega
    have g3' : (at_ : Int) + (own : Int) ≤ (mem.length : Int) := by omega
    have g5' : (own : Int) ≤ (was.length : Int) := by omega
    have g4' : (own : Int) ≤ (c : Int) := by omega
    have hwn : ((was.length - own : Nat) : Int) = (was.length : Int) - (own : Int) := by omega
    generalize splat mem (at_ + own) (was.drop own) = mem2 at *
    have hwa : IntKind.i64.wrap ((at_ : Int) + (own : Int)) = (at_ : Int) + (own : Int) := IntWalk.i64_in _ (by omega)
    have hwb : (0 : Int) ≤ (at_ : Int) + (own : Int) := by omega
    have hwc : ((at_ : Int) + (own : Int)).toNat = at_ + own := by omega
    have q1 : at_ + own < mem.length := by omega
    have q2 : own < c := by omega
    generalize was.length = n at *
    generalize mem.length = N at *
    clear hr hb r2 r3 hd
    clear how hpos
    go_enter Tryd.func65, Tryd.ntmps65
    go_wp2_with fail
    go_still_tail 11, (by kernel_rfl)
    change wpList _ _ _ _ _ w.drew
    go_wp2_with fail
    go_end0
    exact ⟨rfl, Hb.out, Hk.out⟩
  · have e1 : ownOf kept ahead was.length = 0 := by unfold ownOf; omega
    have e2 : was.drop 0 = was := rfl
    rw [e1, e2, Nat.add_zero]
    have g0 : (kept : Int) - (ahead : Int) < 0 := by omega
    obtain ⟨W', r1, r2, r3⟩ := copy_run w.drew bb at_ (mem.length - at_) (mem.length - at_) (some ⟨ab, ao, none⟩) was mem c w.heap.size hr hb (by omega) (by omega)
    have Hb := Lib.hid r2
    have Hk : Hid (Kept (fun b => b ≠ bb) w W') := ⟨r3.os, r3.tape, r3.output, r3.size, r3.block⟩
    have g3 : (at_ : Int) < (mem.length : Int) := by omega
    have g3' : (at_ : Int) ≤ (mem.length : Int) := by omega
    have hwa : IntKind.i64.wrap (at_ : Int) = (at_ : Int) := IntWalk.i64_in _ (by omega)
    have q1 : at_ < mem.length := by omega
    have q2 : 0 < c := by omega
    have q2' : c ≠ 0 := by omega
    generalize splat mem at_ was = mem2 at *
    generalize was.length = n at *
    generalize mem.length = N at *
    clear hr hb r2 r3 e1 e2 hlt heq hpos
    go_enter Tryd.func65, Tryd.ntmps65
    go_wp2_with fail
    go_still_tail 11, (by kernel_rfl)
    change wpList _ _ _ _ _ w.drew
    go_wp2_with fail
    go_end0
    exact ⟨rfl, Hb.out, Hk.out⟩
end Go.Proofs.YtkjogkmdldplgaaDoor

/-
  A device is cut.
-/
namespace Go.Proofs.YtkjogkmdldplgaaDoor
open Go.RowKit

def keptOf (pending : Nat) (picks : List Int) : Nat := if 0 < picks.headD 0 then (picks.headD 0 % ((pending : Int) + 1)).toNat else 0
def undoOne (kept : Nat) (u : Und) (m : List UInt8) : List UInt8 := splat m (u.at_ + ownOf kept u.ahead u.was.length) (u.was.drop (ownOf kept u.ahead u.was.length))
def undoAll (kept : Nat) (us : List Und) (m : List UInt8) : List UInt8 := us.foldr (undoOne kept) m
def Dev.cut (D : Dev) (picks : List Int) : Dev := ⟨undoAll (keptOf D.pending picks) D.undos D.mem, [], 0⟩
theorem keptOf_le (pending : Nat) (picks : List Int) : keptOf pending picks ≤ pending := by
  unfold keptOf
  split
  · have h1 := Int.emod_nonneg (picks.headD 0) (show (pending : Int) + 1 ≠ 0 by omega)
    have h2 := Int.emod_lt_of_pos (picks.headD 0) (show 0 < (pending : Int) + 1 by omega)
    omega
  · exact Nat.zero_le _
theorem ownOf_le (kept ahead n : Nat) : ownOf kept ahead n ≤ n := Nat.min_le_right _ _
theorem undoOne_length (kept : Nat) (u : Und) (m : List UInt8) (h : u.at_ + u.was.length ≤ m.length) : (undoOne kept u m).length = m.length := by
  have := ownOf_le kept u.ahead u.was.length
  exact splat_length _ _ _ (by simp; omega)
theorem undoAll_length (kept : Nat) : ∀ (us : List Und) (m : List UInt8), (∀ u ∈ us, u.at_ + u.was.length ≤ m.length) → (undoAll kept us m).length = m.length
  | [], m, _ => rfl
  | u :: us, m, h => by
    have ih := undoAll_length kept us m (fun x hx => h x (by simp [hx]))
    show (undoOne kept u (undoAll kept us m)).length = _
    rw [undoOne_length _ _ _ (by rw [ih]; exact h u (by simp)), ih]
theorem Dev.Ok.cut {D : Dev} (h : D.Ok) (picks : List Int) : (D.cut picks).Ok := by
  have hl := undoAll_length (keptOf D.pending picks) D.undos D.mem h.fits
  exact ⟨by show 64 ≤ (undoAll _ _ _).length; rw [hl]; exact h.low, by show (undoAll _ _ _).length ≤ _; rw [hl]; exact h.high, fun u hu => by simp [Dev.cut] at hu, fun u hu => by simp [Dev.cut] at hu, fun u hu => by simp [Dev.cut] at hu, Nat.zero_le _⟩

/-- some writes, the last ones, are undone -/
def CutRel (w : World) (kept bb : Nat) (D : Dev) (j : Nat) (wr : World) : Prop := Blk wr bb (undoAll kept (D.undos.drop j) D.mem) ∧ Kept (fun b => b ≠ bb) w wr
/-- the device with other bytes -/
theorem SysAt.mem_set {w w' : World} {O : Nat → Option Tag} {pw nv bb : Nat} {P : Pow} {D : Dev} {uv : Value} (h : SysAt w O pw P nv D) (hc : Cells w nv 54 [.pointer (some ⟨pw, 0, none⟩), .slice (some ⟨bb, 0, none⟩) D.mem.length D.mem.length, uv, .int .i64 (D.pending : Int)]) (hb : O bb = some .bytes)
    {m : List UInt8} (hm : Blk w' bb m) (hl : m.length = D.mem.length) (hk : Kept (fun b => b ≠ bb) w w') : SysAt w' O pw P nv { D with mem := m } ∧ Ext w O w' O := by
  obtain ⟨bb', uv', vs, c1, t1, c2, t2, o1, o2, o3, o4⟩ := h.dev
  have e := (hc.type c1).2
  injection e with _ e
  injection e with e _
  injection e with e _ _
  injection e with e
  injection e with e _ _
  subst e
  have ha : Agree (fun t => t ≠ .bytes) w O w' O := hk.agree fun b t hb' ht e => ht (by rw [e, hb] at hb'; cases hb'; rfl)
  obtain ⟨a1, _⟩ := ha nv _ c1.lt t1 (by intro e; cases e)
  refine ⟨⟨fun b hb => Nat.lt_of_lt_of_le (h.fresh b hb) hk.size, ⟨bb, uv', vs, by simpa only [hl] using c1.move a1, t1, hm, t2, o1.move fun g hg => (ha g _ (o1.ge g hg).2 (o2 g hg) (by intro e; cases e)).1, o2, o3, fun k u hu => ?_⟩, ⟨by show 64 ≤ m.length; rw [hl]; exact h.ok.low, by show m.length ≤ _; rw [hl]; exact h.ok.high, by show ∀ u ∈ D.undos, _ ≤ m.length; rw [hl]; exact h.ok.fits, h.ok.ahead, h.ok.some_, h.ok.count⟩, h.pow.keep h.fresh hk.size ha (by intro e; cases e) (by intro e; cases e) (by intro e; cases e)⟩, hk.mono (fun b _ hb' e => by rw [e, hb] at hb'; cases hb'), fun _ _ => rfl⟩
  obtain ⟨v, hv, hu2⟩ := o4 k u hu
  exact ⟨v, hv, hu2.keep h.fresh hk.size ha (by intro e; cases e)⟩

set_option maxRecDepth 20000 in
set_option maxHeartbeats 2000000 in
theorem cut_any (pw nv : Nat) (P : Pow) (D : Dev) (O : Nat → Option Tag) (A : Option Addr) (c : Nat) (picks : List Int) (w : World) (h : SysAt w O pw P nv D) (hR : RI w w.heap.size A picks) (hA : picks ≠ [] → ∀ ad, A = some ad → O ad.block ≠ some .bytes) (hpd : D.pending ≤ 1099511627776) (hpl : picks.length ≤ 9223372036854775807) :
    Calls Tryd.prog 85 #[.pointer (some ⟨nv, 0, none⟩), .slice A picks.length c] w (SysPost w O pw P nv (D.cut picks) (.tuple #[])) := by
  obtain ⟨kept, hkept⟩ : ∃ kept, kept = keptOf D.pending picks := ⟨_, rfl⟩
  have hkl : kept ≤ 1099511627776 := by have := keptOf_le D.pending picks; omega
  obtain ⟨bb, uv, vs, c1, t1, c2, t2, o1, o2, o3, o4⟩ := h.dev
  obtain ⟨Au, cu, rfl, hcu, _, hrd⟩ := o1.rd
  have y1 := c1.cell (i := 1) rfl
  have y2 := c1.cell (i := 2) rfl
  have y3 := c1.cell (i := 3) rfl
  have hnb : nv ≠ bb := fun e => by rw [e, t2] at t1; cases t1
  -- what the loop needs at the write k
  have Hun : Hid (∀ k u, D.undos[k]? = some u → ∃ (ub a7 a6 a3 a4 : Nat), Au = some ⟨ub, 0, none⟩ ∧ ∀ wr, CutRel w kept bb D (k + 1) wr → wr.cell? ⟨ub, k, none⟩ = some (undoV a7 a6 a3 a4) ∧ Calls Tryd.prog 65 #[.int .i64 (kept : Int), .pointer (some ⟨a7, 0, none⟩), .pointer (some ⟨a6, 0, none⟩), .pointer (some ⟨a3, 0, none⟩), .pointer (some ⟨a4, 0, none⟩)] wr fun e w' => e = .returned (.tuple #[]) ∧ CutRel w kept bb D k w') := by
    intro k u hu
    obtain ⟨v, hv, a7, a6, a3, a4, Aw, cw, rfl, q7, q6, q3, q4, r7, r6, r3, r4, rb, rt, rc, rm⟩ := o4 k u hu
    obtain ⟨ub, hub, hubl, hcell⟩ := hrd k _ hv
    refine ⟨ub, a7, a6, a3, a4, hub, fun wr hrel => ?_⟩
    have hub2 : O ub = some .undos := o2 ub (by rw [hub]; rfl)
    have mv : ∀ {b i : Nat} {v : Value}, b ≠ bb → w.cell? ⟨b, i, none⟩ = some v → wr.cell? ⟨b, i, none⟩ = some v := fun hb hv => (World.cell?_of_block (w := w) (hrel.2.block _ (cell_lt hv) hb)).trans hv
    have ne : ∀ {b : Nat}, O b = some .undo → b ≠ bb := fun hb e => by rw [e, t2] at hb; cases hb
    have hlen : (undoAll kept (D.undos.drop (k + 1)) D.mem).length = D.mem.length := undoAll_length _ _ _ fun x hx => h.ok.fits x (List.mem_of_mem_drop hx)
    have hm := List.mem_of_getElem? hu
    have hfit := h.ok.fits u hm
    have hahd := h.ok.ahead u hm
    have hsome := h.ok.some_ u hm
    refine ⟨mv (fun e => by rw [e, t2] at hub2; cases hub2) hcell, ?_⟩
    refine (undo_any kept a7 a6 a3 a4 nv bb cw u.ahead u.at_ Aw u.was _ wr (mv (ne r7) q7) (mv (ne r6) q6) (mv (ne r3) q3) (mv (ne r4) q4) (by rw [hlen]; exact mv hnb y1) hrel.1 ?_ rc hsome (by rw [hlen]; exact hfit) (by rw [hlen]; exact h.ok.high) hkl (by omega) rm).mono fun e w' ⟨he, s1, s2⟩ => ⟨he, ?_, ?_⟩
    · exact (rb.kept hrel.2 (fun _ ad he => ne (rt ad he)) (Nat.le_refl _)).wide hrel.2.size
    · have hkl2 := (List.getElem?_eq_some_iff.1 hu).1
      have e : D.undos.drop k = u :: D.undos.drop (k + 1) := by
        rw [List.drop_eq_getElem_cons hkl2, (List.getElem?_eq_some_iff.1 hu).2]
      rw [e]
      exact s1
    · exact ⟨s2.os.trans hrel.2.os, s2.tape.trans hrel.2.tape, s2.output.trans hrel.2.output, Nat.le_trans hrel.2.size s2.size, fun b hb hn => (s2.block b (Nat.lt_of_lt_of_le hb hrel.2.size) hn).trans (hrel.2.block b hb hn)⟩
  have Hset : Hid (∀ wr, CutRel w kept bb D 0 wr → Calls Tryd.prog 61 #[.pointer (some ⟨nv, 0, none⟩)] wr (SysPost w O pw P nv (D.cut picks) (.tuple #[]))) := by
    intro wr hrel
    have hb := hrel.1
    rw [List.drop_zero] at hb
    obtain ⟨s1, s2⟩ := h.mem_set c1 t2 hb (undoAll_length _ _ _ h.ok.fits) hrel.2
    refine (settle_any pw nv P _ O wr s1).mono fun e w' ⟨O', he, q1, q2⟩ => ⟨O', he, ?_, s2.trans q2⟩
    have e : D.cut picks = Dev.settle { D with mem := undoAll kept D.undos D.mem } := by rw [hkept]; rfl
    rw [e]
    exact q1
  have Hy2 : Hid (∀ j wr, CutRel w kept bb D j wr → wr.cell? ⟨nv, 2, none⟩ = some (.slice Au vs.length cu)) := fun j wr hrel => (World.cell?_of_block (w := w) (hrel.2.block nv c1.lt hnb)).trans y2
  have Hst : Hid (∀ q, CutRel w kept bb D D.undos.length (w.drewN q)) := fun q => ⟨by rw [List.drop_length]; exact c2, (Kept.refl _ w).drewN q⟩
  obtain ⟨L, hL⟩ : ∃ L, L = D.undos.length := ⟨_, rfl⟩
  have HL := Lib.hid hL
  have hLb : (L : Int) ≤ 1099511627776 := by have := h.ok.count; omega
  rw [o3, ← hL] at y2 Hy2
  rw [← hL] at Hst
  have hpd' : (D.pending : Int) ≤ 1099511627776 := by omega
  have hkw : keptOf D.pending picks = kept := hkept.symm
  have hcase : (picks = [] ∧ kept = 0) ∨ (∃ x r, picks = x :: r ∧ ((x ≤ 0 ∧ kept = 0) ∨ (0 < x ∧ x.tmod ((D.pending : Int) + 1) = (kept : Int)))) := by
    rcases picks with _ | ⟨x, r⟩
    · refine .inl ⟨rfl, ?_⟩
      rw [← hkw]
      rfl
    · refine .inr ⟨x, r, rfl, ?_⟩
      by_cases hx : 0 < x
      · refine .inr ⟨hx, ?_⟩
        have h1 := Int.emod_nonneg x (show (D.pending : Int) + 1 ≠ 0 by omega)
        rw [Int.tmod_eq_emod_of_nonneg (by omega), ← hkw]
        unfold keptOf
        rw [if_pos (show 0 < (x :: r).headD 0 from hx)]
        show _ = ((x % ((D.pending : Int) + 1)).toNat : Int)
        omega
      · refine .inl ⟨by omega, ?_⟩
        rw [← hkw]
        unfold keptOf
        rw [if_neg (show ¬ 0 < (x :: r).headD 0 from hx)]
  have hw1 : IntKind.i64.wrap ((D.pending : Int) + 1) = (D.pending : Int) + 1 := IntWalk.i64_in _ (by omega)
  have hne : ((D.pending : Int) + 1) ≠ 0 := by omega
  have Hend : Hid (∀ k, k < L → ∃ u, D.undos[k]? = some u) := fun k hk => ⟨_, List.getElem?_eq_getElem (by rw [← hL]; exact hk)⟩
  generalize D.pending = pd at y3 hpd' hw1 hne hcase
  have hp0 : (0 : Int) ≤ (pd : Int) := by omega
  have Hloop : Hid (L = 0 ∨ ∃ m, L = m + 1) := by rcases L with _ | m; exact .inl rfl; exact .inr ⟨m, rfl⟩
  rcases hcase with ⟨rfl, hk0⟩ | ⟨x, r, rfl, ⟨hx, hk0⟩ | ⟨hx, hk0⟩⟩
  · subst hk0
    clear h hR hA hpd c1 t1 c2 t2 o1 o2 o3 o4 hrd hcu hkept hkw hL hnb y1
    go_enter Tryd.func85, Tryd.ntmps85
    go_wp2_with fail
    go_loopw [5] (fun iv wr => (iv = .int .i64 (-1) ∧ Hid (CutRel w 0 bb D 0 wr)) ∨ (∃ k : Nat, iv = .int .i64 (k : Int) ∧ k < L ∧ Hid (CutRel w 0 bb D (k + 1) wr))) (fun iv _ => (intOf iv + 1).toNat)
    case atStart =>
      rcases Hloop.out with h0 | ⟨m, h0⟩
      · have q := Hst.out 0
        rw [h0] at q ⊢
        exact .inl ⟨rfl, q⟩
      · have q := Hst.out 0
        rw [h0] at q ⊢
        exact .inr ⟨m, by congr 1; omega, by omega, q⟩
    case round =>
      rcases hrel with ⟨rfl, hrel⟩ | ⟨k, rfl, hk, hrel⟩
      · have Hs := Lib.hid (Hset.out wr hrel.out)
        go_wp2_with (go_at_call 61; refine Hs.out.mono ?_; rintro e w5 ⟨O5, rfl, q1, q2⟩; have Hq : Hid (SysPost w O pw P nv (D.cut []) (.tuple #[]) (.returned (.tuple #[])) w5) := ⟨O5, rfl, q1, q2⟩; clear q1 q2)
        go_end0
        exact Hq.out
      · obtain ⟨u, hu⟩ := Hend.out k hk
        obtain ⟨ub, a7, a6, a3, a4, rfl, hun⟩ := Hun.out k u hu
        obtain ⟨q1, q2⟩ := hun wr hrel.out
        have z2 := Hy2.out _ wr hrel.out
        have Hc := Lib.hid q2
        have hk' : (k : Int) < (L : Int) := by omega
        unfold undoV at q1
        clear q2 hun hu
        go_wp2_with (go_at_call 65; refine Hc.out.mono ?_; rintro e w5 ⟨rfl, q3⟩; have Hq3 := Lib.hid q3; clear q3)
        go_roundw
        case rel =>
          rcases k with _ | k
          · exact .inl ⟨(by first | rfl | (congr 1; omega)), Hq3.out⟩
          · exact .inr ⟨k, by congr 1; omega, by omega, Hq3.out⟩
        case measure => first | (simp [intOf]; done) | (simp [intOf]; omega)
  · subst hk0
    obtain ⟨ab, ao, rfl, _⟩ := hR.flat (by simp)
    have hx0 : w.cell? ⟨ab, ao, none⟩ = some (.int .i64 x) := by have := hR.at_ (k := 0) (by simp); simpa using this
    have hln : (0 : Int) < ((x :: r).length : Int) := by rw [List.length_cons]; omega
    generalize (x :: r).length = pn at *
    clear h hR hA hpd c1 t1 c2 t2 o1 o2 o3 o4 hrd hcu hkept hkw hL hnb y1
    go_enter Tryd.func85, Tryd.ntmps85
    go_wp2_with fail
    go_loopw [5] (fun iv wr => (iv = .int .i64 (-1) ∧ Hid (CutRel w 0 bb D 0 wr)) ∨ (∃ k : Nat, iv = .int .i64 (k : Int) ∧ k < L ∧ Hid (CutRel w 0 bb D (k + 1) wr))) (fun iv _ => (intOf iv + 1).toNat)
    case atStart =>
      rcases Hloop.out with h0 | ⟨m, h0⟩
      · have q := Hst.out 0
        rw [h0] at q ⊢
        exact .inl ⟨rfl, q⟩
      · have q := Hst.out 0
        rw [h0] at q ⊢
        exact .inr ⟨m, by congr 1; omega, by omega, q⟩
    case round =>
      rcases hrel with ⟨rfl, hrel⟩ | ⟨k, rfl, hk, hrel⟩
      · have Hs := Lib.hid (Hset.out wr hrel.out)
        go_wp2_with (go_at_call 61; refine Hs.out.mono ?_; rintro e w5 ⟨O5, rfl, q1, q2⟩; have Hq : Hid (SysPost w O pw P nv (D.cut (x :: r)) (.tuple #[]) (.returned (.tuple #[])) w5) := ⟨O5, rfl, q1, q2⟩; clear q1 q2)
        go_end0
        exact Hq.out
      · obtain ⟨u, hu⟩ := Hend.out k hk
        obtain ⟨ub, a7, a6, a3, a4, rfl, hun⟩ := Hun.out k u hu
        obtain ⟨q1, q2⟩ := hun wr hrel.out
        have z2 := Hy2.out _ wr hrel.out
        have Hc := Lib.hid q2
        have hk' : (k : Int) < (L : Int) := by omega
        unfold undoV at q1
        clear q2 hun hu
        go_wp2_with (go_at_call 65; refine Hc.out.mono ?_; rintro e w5 ⟨rfl, q3⟩; have Hq3 := Lib.hid q3; clear q3)
        go_roundw
        case rel =>
          rcases k with _ | k
          · exact .inl ⟨(by first | rfl | (congr 1; omega)), Hq3.out⟩
          · exact .inr ⟨k, by congr 1; omega, by omega, Hq3.out⟩
        case measure => first | (simp [intOf]; done) | (simp [intOf]; omega)
  · obtain ⟨ab, ao, rfl, _⟩ := hR.flat (by simp)
    have hx0 : w.cell? ⟨ab, ao, none⟩ = some (.int .i64 x) := by have := hR.at_ (k := 0) (by simp); simpa using this
    have hln : (0 : Int) < ((x :: r).length : Int) := by rw [List.length_cons]; omega
    generalize (x :: r).length = pn at *
    clear h hR hA hpd c1 t1 c2 t2 o1 o2 o3 o4 hrd hcu hkept hkw hL hnb y1
    go_enter Tryd.func85, Tryd.ntmps85
    go_wp2_with fail
    go_quiet (fail)
    go_wp2_with fail
    go_loopw [5] (fun iv wr => (iv = .int .i64 (-1) ∧ Hid (CutRel w kept bb D 0 wr)) ∨ (∃ k : Nat, iv = .int .i64 (k : Int) ∧ k < L ∧ Hid (CutRel w kept bb D (k + 1) wr))) (fun iv _ => (intOf iv + 1).toNat)
    case atStart =>
      rcases Hloop.out with h0 | ⟨m, h0⟩
      · have q := Hst.out nq
        rw [h0] at q ⊢
        exact .inl ⟨rfl, q⟩
      · have q := Hst.out nq
        rw [h0] at q ⊢
        exact .inr ⟨m, by congr 1; omega, by omega, q⟩
    case round =>
      rcases hrel with ⟨rfl, hrel⟩ | ⟨k, rfl, hk, hrel⟩
      · have Hs := Lib.hid (Hset.out wr hrel.out)
        go_wp2_with (go_at_call 61; refine Hs.out.mono ?_; rintro e w5 ⟨O5, rfl, q1, q2⟩; have Hq : Hid (SysPost w O pw P nv (D.cut (x :: r)) (.tuple #[]) (.returned (.tuple #[])) w5) := ⟨O5, rfl, q1, q2⟩; clear q1 q2)
        go_end0
        exact Hq.out
      · obtain ⟨u, hu⟩ := Hend.out k hk
        obtain ⟨ub, a7, a6, a3, a4, rfl, hun⟩ := Hun.out k u hu
        obtain ⟨q1, q2⟩ := hun wr hrel.out
        have z2 := Hy2.out _ wr hrel.out
        have Hc := Lib.hid q2
        have hk' : (k : Int) < (L : Int) := by omega
        unfold undoV at q1
        clear q2 hun hu
        go_wp2_with (go_at_call 65; refine Hc.out.mono ?_; rintro e w5 ⟨rfl, q3⟩; have Hq3 := Lib.hid q3; clear q3)
        go_roundw
        case rel =>
          rcases k with _ | k
          · exact .inl ⟨(by first | rfl | (congr 1; omega)), Hq3.out⟩
          · exact .inr ⟨k, by congr 1; omega, by omega, Hq3.out⟩
        case measure => first | (simp [intOf]; done) | (simp [intOf]; omega)
end Go.Proofs.YtkjogkmdldplgaaDoor
