/-
  Whose turn it is; where a slot lies.
-/
import Derived.Test.YtkjogkmdldplgaaDoorLgMath
import Derived.Test.YtkjogkmdldplgaaDoorLgErr
import Derived.StillTailTactics
import Derived.Test.YtkjogkmdldplgaaDoorAppStep
import Derived.Deep.RegionHeld3
namespace Go.Proofs.YtkjogkmdldplgaaDoor
open Go.RowKit

section
set_option maxRecDepth 20000
set_option maxHeartbeats 1000000
theorem read_ok (pw nv : Nat) (P : Pow) (D : Dev) (O : Nat → Option Tag) (a n : Nat) (w : World) (h : SysAt w O pw P nv D) (hoff : P.off = false) (hf : a + n ≤ D.mem.length) :
    Calls Tryd.prog 14 #[.pointer (some ⟨nv, 0, none⟩), .int .i64 (a : Int), .int .i64 (n : Int)] w fun e w' => ∃ A c, e = .returned (.tuple #[.slice A n c, .int .i64 0]) ∧
      RB w' w'.heap.size A ((D.mem.drop a).take n) ∧ n ≤ c ∧ (A = none → c = 0) ∧ Below w.heap.size w w' := by
  have hN := h.ok.high
  have hh : hasB D.mem.length (a : Int) (n : Int) = true := decide_eq_true ⟨by omega, by omega, by omega⟩
  have e1 : readCode P D.mem.length (a : Int) (n : Int) = 0 := by unfold readCode; rw [hoff, hh]; rfl
  have e2 : readBytes P D.mem (a : Int) (n : Int) = (D.mem.drop a).take n := by unfold readBytes; rw [if_pos e1]; rfl
  refine (read_any pw nv P D O a n w h (by omega)).mono ?_
  rw [e1, e2]
  rintro e w' ⟨v, rfl, ho, hb⟩
  obtain ⟨A, c, rfl, hc, hr, hA⟩ := ho.rb
  have hl : ((D.mem.drop a).take n).length = n := by simp; omega
  rw [hl] at hc ⊢
  exact ⟨A, c, rfl, hr, hc, hA, hb⟩

theorem place_any (t : Nat) (ht : t = 1 ∨ t = 2) (w : World) :
    Calls Tryd.prog 41 #[.int .u8 (t : Int)] w fun e w' => e = .returned (.int .i64 ((1 + 28 * (t - 1) : Nat) : Int)) ∧ w = w' := by
  rcases ht with rfl | rfl
  all_goals
    go_enter Tryd.func41, Tryd.ntmps41
    go_wp2_with fail
    go_ret
    exact ⟨rfl, rfl⟩

theorem first_byte {m : List UInt8} (h : 1 ≤ m.length) : (m.drop 0).take 1 = [byteAt m 0] := by
  cases m with
  | nil => simp at h
  | cons x l => simp [byteAt]
theorem turn_any (pw nv lb : Nat) (P : Pow) (D : Dev) (O : Nat → Option Tag) (t : Nat) (w : World) (h : SysAt w O pw P nv D) (hoff : P.off = false) (k0 : w.cell? ⟨lb, 0, none⟩ = some (.pointer (some ⟨nv, 0, none⟩))) (ht : t = 1 ∨ t = 2) (hb : byteAt D.mem 0 = UInt8.ofNat t) :
    Calls Tryd.prog 38 #[.pointer (some ⟨lb, 0, none⟩)] w fun e w' => e = .returned (.tuple #[.int .u8 (t : Int), .nilIface]) ∧ Below w.heap.size w w' := by
  have hlow := h.ok.low
  have Hr : Hid (Calls Tryd.prog 14 #[.pointer (some ⟨nv, 0, none⟩), .int .i64 0, .int .i64 1] w fun e w' => ∃ ad c, e = .returned (.tuple #[.slice (some ad) 1 c, .int .i64 0]) ∧ w'.cell? ad = some (.int .u8 (t : Int)) ∧ Below w.heap.size w w') := by
    refine (read_ok pw nv P D O 0 1 w h hoff (by omega)).mono ?_
    rintro e w' ⟨A, c, rfl, hr, _, _, hbl⟩
    rw [first_byte (by omega), hb] at hr
    obtain ⟨b, o, rfl, _⟩ := hr.flat (by simp)
    obtain ⟨ad, e, _, hc⟩ := hr.at_ (k := 0) (by simp)
    cases e
    rw [add_flat, Nat.add_zero] at hc
    refine ⟨_, c, rfl, hc.trans ?_, hbl⟩
    rcases ht with rfl | rfl <;> rfl
  clear h hb hlow
  rcases ht with rfl | rfl
  all_goals
    go_enter Tryd.func38, Tryd.ntmps38
    go_wp2_with (go_at_call 14; refine Hr.out.mono ?_; rintro e w1 ⟨ad, c, rfl, hc, hbl⟩; have Hb := Lib.hid hbl; clear hbl)
    go_ret2
    exact ⟨rfl, Hb.out⟩
/-- a device that was never formatted -/
theorem turn_new (pw nv lb : Nat) (P : Pow) (D : Dev) (O : Nat → Option Tag) (w : World) (h : SysAt w O pw P nv D) (hoff : P.off = false) (k0 : w.cell? ⟨lb, 0, none⟩ = some (.pointer (some ⟨nv, 0, none⟩))) (hb : byteAt D.mem 0 = 0) :
    Calls Tryd.prog 38 #[.pointer (some ⟨lb, 0, none⟩)] w fun e w' => ∃ fp, e = .returned (.tuple #[.int .u8 0, faultV fp]) ∧ FaultAt w' fp 24 ∧ Below w.heap.size w w' := by
  have hlow := h.ok.low
  have Hr : Hid (Calls Tryd.prog 14 #[.pointer (some ⟨nv, 0, none⟩), .int .i64 0, .int .i64 1] w fun e w' => ∃ ad c, e = .returned (.tuple #[.slice (some ad) 1 c, .int .i64 0]) ∧ w'.cell? ad = some (.int .u8 0) ∧ Below w.heap.size w w') := by
    refine (read_ok pw nv P D O 0 1 w h hoff (by omega)).mono ?_
    rintro e w' ⟨A, c, rfl, hr, _, _, hbl⟩
    rw [first_byte (by omega), hb] at hr
    obtain ⟨b, o, rfl, _⟩ := hr.flat (by simp)
    obtain ⟨ad, e, _, hc⟩ := hr.at_ (k := 0) (by simp)
    cases e
    rw [add_flat, Nat.add_zero] at hc
    exact ⟨_, c, rfl, hc, hbl⟩
  clear h hb hlow
  go_enter Tryd.func38, Tryd.ntmps38
  go_wp2_with (first
    | (go_at_call 14; refine Hr.out.mono ?_; rintro e w1 ⟨ad, c, rfl, hc, hbl⟩; have Hb := Lib.hid hbl; clear hbl)
    | (go_at_call 37; refine (wrap_bad _ _ _ (by decide)).mono ?_; rintro e w2 ⟨rfl, q1, q2⟩; have Hf := Lib.hid q1; have Hb2 := Lib.hid q2; clear q1 q2))
  go_ret2
  exact ⟨_, rfl, Hf.out, Hb.out.trans (Hb2.out.mono Hb.out.size)⟩
end
end Go.Proofs.YtkjogkmdldplgaaDoor

/-
  A slot is read and told.
-/
namespace Go.Proofs.YtkjogkmdldplgaaDoor
open Go.RowKit

theorem slice_cut (W : World) (b o k n c : Nat) (h1 : k ≤ n) (h2 : n ≤ c) : (Instr.sliceAt 35 (.slice (some ⟨b, o, none⟩) n c) (some (.int .i64 (k : Int))) none none).run Tryd.prog W = .ok (.slice (cutAt (some ⟨b, o, none⟩) c k) (n - k) (c - k)) W := by
  have h3 : (k : Int) ≤ (n : Int) := by omega
  have h5 : (n : Int) ≤ (c : Int) := by omega
  by_cases h4 : c = k
  · subst h4
    obtain rfl : c = n := by omega
    simp [go_sem, sliced, cutAt]
  · have h6 : k < c := by omega
    simp [go_sem, h3, h4, h5, sliced, Addr.add, cutAt]
def rem (b : Bd) (rest : List UInt8) (k : Nat) : List UInt8 := ((vals b).drop k).flatMap numBytes ++ rest
def val (b : Bd) (k : Nat) : Nat := (vals b).getD k 0
theorem rem_step (b : Bd) (rest : List UInt8) (k : Nat) (h : k < 4) : rem b rest k = numBytes (val b k) ++ rem b rest (k + 1) := by
  unfold rem val
  rcases k with _ | _ | _ | _ | k
  · simp [vals]
  · simp [vals]
  · simp [vals]
  · simp [vals]
  · omega
def arrL (b : Bd) (k : Nat) : List Value := ((vals b).take k).map (fun v : Nat => Value.int .u64 (v : Int)) ++ List.replicate (4 - k) (.int .u64 0)
theorem arrL_set (b : Bd) (k : Nat) (h : k < 4) : (arrL b k).set k (.int .u64 (val b k : Int)) = arrL b (k + 1) := by
  unfold arrL val
  rcases k with _ | _ | _ | _ | k
  · rfl
  · rfl
  · rfl
  · rfl
  · omega
theorem arrL_get (b : Bd) (k : Nat) (h : k < 4) : ∃ u, (arrL b k)[k]? = some u := by
  unfold arrL
  rcases k with _ | _ | _ | _ | k
  · exact ⟨_, rfl⟩
  · exact ⟨_, rfl⟩
  · exact ⟨_, rfl⟩
  · exact ⟨_, rfl⟩
  · omega
structure BdOk (b : Bd) : Prop where
  first : b.first ≤ b.next
  next : b.next ≤ 1099511627776
  at_ : b.at_ ≤ 67108864
  used : b.used ≤ 67108864
theorem BdOk.val {b : Bd} (h : BdOk b) (k : Nat) : val b k < two64 := by
  have h1 := h.first
  have h2 := h.next
  have h3 := h.at_
  have h4 := h.used
  rw [two64_eq]
  rcases k with _ | _ | _ | _ | k
  · show b.first < _; omega
  · show b.next < _; omega
  · show b.at_ < _; omega
  · show b.used < _; omega
  · show 0 < _; omega
def StSlot (w wr : World) (b : Bd) (rest : List UInt8) (k : Nat) (ad : Addr) (n c : Nat) : Prop :=
  RB wr w.heap.size (some ad) (rem b rest k) ∧ n = (rem b rest k).length ∧ n ≤ c ∧ n ≤ 28 ∧ ad.spot = none ∧ Cells wr w.heap.size 62 [.int .u64 0, .int .u64 0, .int .i64 0, .int .i64 0] ∧ Cells wr (w.heap.size + 1) 122 (arrL b k) ∧ Below w.heap.size w wr

section
set_option maxRecDepth 20000
set_option maxHeartbeats 2000000
theorem readSlot_any (A : Option Addr) (c R : Nat) (b : Bd) (rest : List UInt8) (w : World) (hr : RB w w.heap.size A (slotL b ++ rest)) (hl : (slotL b ++ rest).length = 28) (hc : 28 ≤ c) (hb : BdOk b) (hR : R ≤ 67108864) (ha : b.at_ < R) (hu : b.used ≤ R) :
    Calls Tryd.prog 48 #[.slice A 28 c, .int .i64 (R : Int)] w fun e w' => e = .returned (.tuple #[bdV b, .int .i64 0]) ∧ Below w.heap.size w w' := by
  obtain ⟨q, o, rfl, _⟩ := hr.flat (by omega)
  have Hst : Hid (StSlot w ((w.alloc (.cells #[.int .u64 0, .int .u64 0, .int .i64 0, .int .i64 0] 62)).alloc (.cells #[.int .u64 0, .int .u64 0, .int .u64 0, .int .u64 0] 122)) b rest 0 ⟨q, o, none⟩ 28 c) := by
    have e : rem b rest 0 = slotL b ++ rest := rfl
    have hb1 : Below w.heap.size w ((w.alloc (.cells #[.int .u64 0, .int .u64 0, .int .i64 0, .int .i64 0] 62)).alloc (.cells #[.int .u64 0, .int .u64 0, .int .u64 0, .int .u64 0] 122)) := ((Below.refl _ w).alloc (Nat.le_refl _) _).alloc (by simp) _
    refine ⟨by rw [e]; exact hr.below hb1, by rw [e]; exact hl.symm, hc, Nat.le_refl _, rfl, (Cells.new w _ _).alloc _, ?_, hb1⟩
    have := Cells.new (w.alloc (.cells #[.int .u64 0, .int .u64 0, .int .i64 0, .int .i64 0] 62)) #[.int .u64 0, .int .u64 0, .int .u64 0, .int .u64 0] 122
    simp only [World.size_alloc] at this
    exact this
  have Hb := Lib.hid hb
  have Hn := Lib.hid (And.intro hR (And.intro ha hu))
  clear hr hl hc hb hR ha hu
  go_enter Tryd.func48, Tryd.ntmps48
  go_wp2_with fail
  go_loopw [0, 11] (fun sv iv wr => ∃ (k n c' : Nat) (ad : Addr), sv = .slice (some ad) n c' ∧ iv = .int .i64 (k : Int) ∧ k ≤ 4 ∧ Hid (StSlot w wr b rest k ad n c')) (fun _ iv _ => 4 - (intOf iv).toNat)
  case atStart => exact ⟨0, 28, c, ⟨q, o, none⟩, rfl, rfl, by omega, Hst.out⟩
  case round =>
    obtain ⟨k, n, c', ad, rfl, rfl, hk, hst⟩ := hrel
    by_cases hk4 : k < 4
    · have Hrn : Hid (∃ v m : Nat, v = val b k ∧ m ≤ n ∧ m = (numBytes (val b k)).length ∧ Calls Tryd.prog 53 #[.slice (some ad) n c'] wr fun e w' => e = .returned (.tuple #[.int .u64 (v : Int), .int .i64 (m : Int), .int .i64 0]) ∧ wr = w') := by
        obtain ⟨s1, s2, s3, s4, s5, s6, s7, s8⟩ := hst.out
        have h := rn_any (some ad) c' (rem b rest k) wr _ s1 (by omega) (by omega) (fun e => by cases e)
        rw [← s2, rem_step b rest k hk4, readNum_forth _ _ (Hb.out.val k)] at h
        rw [rem_step b rest k hk4, List.length_append] at s2
        exact ⟨_, _, rfl, by omega, rfl, h⟩
      obtain ⟨v, m, hv, hm, hm2, hcall⟩ := Hrn.out
      have Hc := Lib.hid hcall
      have Hst2 : Hid (∃ ad', (∀ W : World, (Instr.sliceAt 35 (.slice (some ad) n c') (some (.int .i64 (m : Int))) none none).run Tryd.prog W = .ok (.slice (some ad') (n - m) (c' - m)) W) ∧ (∃ u, wr.drew.cell? ⟨w.heap.size + 1, k, none⟩ = some u) ∧ wr.drew.frozen? ⟨w.heap.size + 1, k, none⟩ = false ∧ StSlot w (wr.drew.setCell ⟨w.heap.size + 1, k, none⟩ (.int .u64 (v : Int))) b rest (k + 1) ad' (n - m) (c' - m)) := by
        obtain ⟨s1, s2, s3, s4, s5, s6, s7, s8⟩ := hst.out
        obtain ⟨ab, ao, asp⟩ := ad
        dsimp only at s5
        subst s5
        obtain ⟨ad', had⟩ : ∃ ad', cutAt (some ⟨ab, ao, none⟩) c' m = some ad' := by
          unfold cutAt
          split
          · exact ⟨_, rfl⟩
          · exact ⟨_, rfl⟩
        have hspot : ad'.spot = none := by
          unfold cutAt at had
          split at had
          · cases had; rfl
          · cases had
            show (Addr.add ⟨ab, ao, none⟩ m).spot = none
            rw [add_flat]
        have hcut := s1.cut (cap := c') (k := m) (by omega)
        rw [rem_step b rest k hk4, List.drop_left' hm2.symm, had] at hcut
        have s7' : Cells wr.drew (w.heap.size + 1) 122 (arrL b k) := s7
        obtain ⟨u, hu⟩ := arrL_get b k hk4
        rw [rem_step b rest k hk4, List.length_append] at s2
        have hbl : Below w.heap.size w (wr.drew.setCell ⟨w.heap.size + 1, k, none⟩ (.int .u64 (v : Int))) := s8.drew.setCell (by show w.heap.size ≤ w.heap.size + 1; omega) _
        refine ⟨ad', fun W => by rw [slice_cut W ab ao m n c' hm s3, had], ⟨u, s7'.cell hu⟩, s7'.frozen k, hcut.move (fun p hp => (hbl.cell hp).trans (s8.cell hp).symm) (Nat.le_refl _), by omega, by omega, by omega, hspot, ?_, ?_, hbl⟩
        · have s6' : Cells wr.drew w.heap.size 62 _ := s6
          exact s6'.move (Below.heap_setCell _ _ _ _ (by show w.heap.size ≠ w.heap.size + 1; omega))
        · rw [← arrL_set b k hk4, hv]
          exact s7'.set k _
      have hk4' : (k : Int) < 4 := by omega
      clear hcall hm hm2 hv hst
      go_wp2_with (go_at_call 53; refine Hc.out.mono ?_; rintro e w1 ⟨rfl, rfl⟩)
      obtain ⟨ad', hsl, ⟨u, hcu⟩, hfu, hst2⟩ := Hst2.out
      have Hst3 := Lib.hid hst2
      clear hst2 Hst2
      go_region
      go_wp2_with fail
      go_roundw
      case rel => exact ⟨k + 1, _, _, ad', rfl, by go_num, by omega, Hst3.out⟩
      case measure => simp [intOf]; omega
    · obtain rfl : k = 4 := by omega
      obtain ⟨s1, s2, s3, s4, s5, s6, s7, s8⟩ := hst.out
      have c0 : wr.cell? ⟨w.heap.size + 1, 0, none⟩ = some (.int .u64 (b.first : Int)) := s7.cell (i := 0) rfl
      have c1 : wr.cell? ⟨w.heap.size + 1, 1, none⟩ = some (.int .u64 (b.next : Int)) := s7.cell (i := 1) rfl
      have c2 : wr.cell? ⟨w.heap.size + 1, 2, none⟩ = some (.int .u64 (b.at_ : Int)) := s7.cell (i := 2) rfl
      have c3 : wr.cell? ⟨w.heap.size + 1, 3, none⟩ = some (.int .u64 (b.used : Int)) := s7.cell (i := 3) rfl
      have f0 := s6.frozen 0
      have f1 := s6.frozen 1
      have f2 := s6.frozen 2
      have f3 := s6.frozen 3
      have d0 := s6.cell (i := 0) rfl
      have d1 := s6.cell (i := 1) rfl
      have d2 := s6.cell (i := 2) rfl
      have d3 := s6.cell (i := 3) rfl
      have Hend : Hid (∀ W, W = (((wr.setCell ⟨w.heap.size, 0, none⟩ (.int .u64 (b.first : Int))).setCell ⟨w.heap.size, 1, none⟩ (.int .u64 (b.next : Int))).setCell ⟨w.heap.size, 2, none⟩ (.int .i64 (b.at_ : Int))).setCell ⟨w.heap.size, 3, none⟩ (.int .i64 (b.used : Int)) → Below w.heap.size w W ∧ W.cell? ⟨w.heap.size, 0, none⟩ = some (.int .u64 (b.first : Int)) ∧ W.cell? ⟨w.heap.size, 1, none⟩ = some (.int .u64 (b.next : Int)) ∧ W.cell? ⟨w.heap.size, 2, none⟩ = some (.int .i64 (b.at_ : Int)) ∧ W.cell? ⟨w.heap.size, 3, none⟩ = some (.int .i64 (b.used : Int))) := by
        rintro W rfl
        have k6 := (((s6.set 0 (.int .u64 (b.first : Int))).set 1 (.int .u64 (b.next : Int))).set 2 (.int .i64 (b.at_ : Int))).set 3 (.int .i64 (b.used : Int))
        exact ⟨(((s8.setCell (Nat.le_refl _) _).setCell (Nat.le_refl _) _).setCell (Nat.le_refl _) _).setCell (Nat.le_refl _) _, k6.cell rfl, k6.cell rfl, k6.cell rfl, k6.cell rfl⟩
      have h1 : (b.first : Int) ≤ (b.next : Int) := by have := Hb.out.first; omega
      have h2 : (b.at_ : Int) < (R : Int) := by have := Hn.out; omega
      have h3 : (b.used : Int) ≤ (R : Int) := by have := Hn.out; omega
      have hR' : (R : Int) ≤ 67108864 := by have := Hn.out; omega
      have hwR : IntKind.u64.wrap (R : Int) = (R : Int) := by rw [IntKind.wrap_u64]; omega
      have hwa : IntKind.i64.wrap (b.at_ : Int) = (b.at_ : Int) := IntWalk.i64_in _ (by omega)
      have hwu : IntKind.i64.wrap (b.used : Int) = (b.used : Int) := IntWalk.i64_in _ (by omega)
      clear s1 s2 s3 s4 s5 s6 s7 s8 hst hk4 hk
      go_wp2_with fail
      obtain ⟨q4, q0, q1, q2, q3⟩ := Hend.out _ rfl
      refine bodyPost_ret (v := .tuple #[bdV b, .int .i64 0]) (by simp [results, Tryd.results48, go_sem, q0, q1, q2, q3, bdV]) rfl ⟨rfl, q4⟩

theorem slot_any (b : Bd) (w : World) (hb : BdOk b) :
    Calls Tryd.prog 42 #[bdV b] w fun e w' => ∃ v, e = .returned v ∧ Own w' w.heap.size v (slotL b) ∧ Below w.heap.size w w' := by
  obtain ⟨w2, hw2⟩ : ∃ w2, w2 = (w.alloc (.cells #[.int .u64 (b.first : Int), .int .u64 (b.next : Int), .int .i64 (b.at_ : Int), .int .i64 (b.used : Int)] 62)).alloc (.cells #[.int .u64 (b.first : Int), .int .u64 (b.next : Int), .int .u64 (b.at_ : Int), .int .u64 (b.used : Int)] 34) := ⟨_, rfl⟩
  have hb2 : Below w.heap.size w w2 := by rw [hw2]; exact ((Below.refl _ w).alloc (Nat.le_refl _) _).alloc (by simp) _
  have hc2 : Cells w2 (w.heap.size + 1) 34 [.int .u64 (b.first : Int), .int .u64 (b.next : Int), .int .u64 (b.at_ : Int), .int .u64 (b.used : Int)] := by
    rw [hw2]
    have := Cells.new (w.alloc (.cells #[.int .u64 (b.first : Int), .int .u64 (b.next : Int), .int .i64 (b.at_ : Int), .int .i64 (b.used : Int)] 62)) #[.int .u64 (b.first : Int), .int .u64 (b.next : Int), .int .u64 (b.at_ : Int), .int .u64 (b.used : Int)] 34
    simp only [World.size_alloc] at this
    exact this
  have hwa : IntKind.u64.wrap (b.at_ : Int) = (b.at_ : Int) := by rw [IntKind.wrap_u64]; have := hb.at_; omega
  have hwu : IntKind.u64.wrap (b.used : Int) = (b.used : Int) := by rw [IntKind.wrap_u64]; have := hb.used; omega
  have Hb := Lib.hid hb
  have Hw2 := Lib.hid (And.intro hb2 hc2)
  clear hb hb2 hc2
  unfold bdV
  go_enter Tryd.func42, Tryd.ntmps42
  go_wp2_with fail
  rw [← hw2]
  clear hw2 hwa hwu
  go_loopw [3, 18] (fun v iv wr => ∃ k : Nat, iv = .int .i64 (k : Int) ∧ k ≤ 4 ∧ Hid (Own wr w.heap.size v (((vals b).take k).flatMap numBytes)) ∧ Hid (Below w2.heap.size w2 wr)) (fun _ iv _ => 4 - (intOf iv).toNat)
  case atStart => exact ⟨0, rfl, by omega, Own.nil _ _, Below.refl _ _⟩
  case round =>
    obtain ⟨k, rfl, hk, hown, hbl⟩ := hrel
    by_cases hk4 : k < 4
    · obtain ⟨A, c, rfl, h1, h2, h3⟩ := hown.out.rb
      have Hn : Hid (∃ x, wr.cell? ⟨w.heap.size + 1, k, none⟩ = some (.int .u64 (x : Int)) ∧ Calls Tryd.prog 52 #[.slice A (((vals b).take k).flatMap numBytes).length c, .int .u64 (x : Int)] wr fun e w' => ∃ b', e = .returned b' ∧ Own w' w.heap.size b' (((vals b).take (k + 1)).flatMap numBytes) ∧ Below w2.heap.size w2 w') := by
        have hbw := Hw2.out.1.size
        have hlen : (((vals b).take k).flatMap numBytes).length ≤ 1099511627776 := by
          have a1 := numBytes_ten (Hb.out.val 0)
          have a2 := numBytes_ten (Hb.out.val 1)
          have a3 := numBytes_ten (Hb.out.val 2)
          have a4 := numBytes_ten (Hb.out.val 3)
          simp only [val, vals, List.getD_cons_zero, List.getD_cons_succ] at a1 a2 a3 a4
          rcases k with _ | _ | _ | _ | k <;> simp [vals] <;> omega
        have hn := number_any A c _ (val b k) wr _ h2 (Nat.le_refl _) hlen (Hb.out.val k)
        refine ⟨val b k, (World.cell?_of_block (w := w2) (hbl.out.block _ Hw2.out.2.lt)).trans ?_, hn.mono ?_⟩
        · have hc := Hw2.out.2
          rcases k with _ | _ | _ | _ | k
          · exact hc.cell rfl
          · exact hc.cell rfl
          · exact hc.cell rfl
          · exact hc.cell rfl
          · omega
        · rintro e w' ⟨b', rfl, q1, q2⟩
          refine ⟨b', rfl, ?_, hbl.out.trans (q2.mono hbl.out.size)⟩
          have e : ((vals b).take (k + 1)).flatMap numBytes = ((vals b).take k).flatMap numBytes ++ numBytes (val b k) := by
            rcases k with _ | _ | _ | _ | k
            · simp [vals, val]
            · simp [vals, val]
            · simp [vals, val]
            · simp [vals, val]
            · omega
          rw [e]
          exact q1.wide (Nat.le_trans hbw hbl.out.size)
      obtain ⟨x, hx, hcall⟩ := Hn.out
      have Hc := Lib.hid hcall
      have hk4' : (k : Int) < 4 := by omega
      clear hcall h1 h2 h3 hown
      generalize (((vals b).take k).flatMap numBytes).length = L at *
      go_wp2_with (go_at_call 52; refine Hc.out.mono ?_; rintro e w3 ⟨v3, rfl, q1, q2⟩; have Hq := Lib.hid (And.intro q1 q2); clear q1 q2)
      go_roundw
      case rel => exact ⟨k + 1, by go_num, by omega, Hq.out.1, Hq.out.2⟩
      case measure => simp [intOf]; omega
    · obtain rfl : k = 4 := by omega
      go_wp2_with fail
      go_ret
      exact ⟨_, rfl, hown.out, Hw2.out.1.trans (hbl.out.mono Hw2.out.1.size)⟩
end
end Go.Proofs.YtkjogkmdldplgaaDoor

/-
  The bounds that hold are read; a write that outlasts cuts.
-/
namespace Go.Proofs.YtkjogkmdldplgaaDoor
open Go.RowKit

theorem Holds.ok {m : List UInt8} {b : Bd} {rs : List (List UInt8)} (h : Holds m b rs) : BdOk b := ⟨by have := h.cnt; omega, h.nx, by have := h.at_; have := h.high; omega, by have := h.used; have := h.high; omega⟩
theorem drewN_below {B : Nat} {w w' : World} (h : Below B w w') (n : Nat) : Below B w (w'.drewN n) := ⟨h.os, h.tape, h.output, h.size, h.block⟩
/-- WHAT A LOG IS: its device, how many bytes its ring has, what it knew last -/
def LogC (w : World) (lb nv R : Nat) : Prop := ∃ a b c d : Value, Cells w lb 77 [.pointer (some ⟨nv, 0, none⟩), .int .i64 (R : Int), a, b, c, d]
section
set_option maxRecDepth 20000
set_option maxHeartbeats 2000000
theorem bounds_any (pw nv lb R : Nat) (P : Pow) (D : Dev) (O : Nat → Option Tag) (b : Bd) (rs : List (List UInt8)) (w : World) (h : SysAt w O pw P nv D) (hoff : P.off = false) (hl : LogC w lb nv R) (hR : R = D.mem.length - 57) (hh : Holds D.mem b rs) :
    Calls Tryd.prog 29 #[.pointer (some ⟨lb, 0, none⟩)] w fun e w' => e = .returned (.tuple #[bdV b, .nilIface]) ∧ Below w.heap.size w w' := by
  obtain ⟨v1, v2, v3, v4, hlc⟩ := hl
  obtain ⟨t, ht, hb0, rest, hrest⟩ := hh.turn
  have hm1 := hh.low
  have Hl : Hid (∀ w1, Below w.heap.size w w1 → w1.cell? ⟨lb, 0, none⟩ = some (.pointer (some ⟨nv, 0, none⟩)) ∧ w1.cell? ⟨lb, 1, none⟩ = some (.int .i64 (R : Int))) := fun w1 hb => by
    have := hlc.move (hb.block lb hlc.lt)
    exact ⟨this.cell rfl, this.cell rfl⟩
  have Hs : Hid (∀ w1, Below w.heap.size w w1 → SysAt w1 O pw P nv D) := fun w1 hb => h.kept ⟨hb.os, hb.tape, hb.output, hb.size, fun b hlt _ => hb.block b hlt⟩
  obtain ⟨w0, hw0⟩ : ∃ w0, w0 = w.alloc (.cells #[.int .u64 0, .int .u64 0, .int .i64 0, .int .i64 0] 62) := ⟨_, rfl⟩
  have hb0' : Below w.heap.size w w0 := by rw [hw0]; exact (Below.refl _ w).alloc (Nat.le_refl _) _
  have hc0 : Cells w0 w.heap.size 62 [.int .u64 0, .int .u64 0, .int .i64 0, .int .i64 0] := by rw [hw0]; exact Cells.new w _ _
  have Ht := Lib.hid (turn_any pw nv lb P D O t w0 (Hs.out w0 hb0') hoff (Hl.out w0 hb0').1 ht hb0)
  have Hp : Hid (∀ W : World, Calls Tryd.prog 41 #[.int .u8 (t : Int)] W fun e w' => e = .returned (.int .i64 ((1 + 28 * (t - 1) : Nat) : Int)) ∧ w' = W) := fun W => (place_any t ht W).mono fun _ _ ⟨a, b⟩ => ⟨a, b.symm⟩
  have Hr : Hid (∀ w1, Below w0.heap.size w0 w1 → Calls Tryd.prog 14 #[.pointer (some ⟨nv, 0, none⟩), .int .i64 ((1 + 28 * (t - 1) : Nat) : Int), .int .i64 28] w1 fun e w' => ∃ A c, e = .returned (.tuple #[.slice A 28 c, .int .i64 0]) ∧ Below w0.heap.size w0 w' ∧ Calls Tryd.prog 48 #[.slice A 28 c, .int .i64 (R : Int)] w' fun e w' => e = .returned (.tuple #[bdV b, .int .i64 0]) ∧ Below w0.heap.size w0 w') := fun w1 hb1 => by
    have h2 := hb0'.size
    have hb := hb0'.trans (hb1.mono h2)
    refine (read_ok pw nv P D O (1 + 28 * (t - 1)) 28 w1 (Hs.out w1 hb) hoff (by omega)).mono ?_
    rintro e w' ⟨A, c, rfl, q1, q2, q3, q4⟩
    rw [hrest] at q1
    have hlen : (slotL b ++ rest).length = 28 := by rw [← hrest]; simp; omega
    have hb2 := hb1.trans (q4.mono hb1.size)
    refine ⟨A, c, rfl, hb2, (readSlot_any A c R b rest w' q1 hlen q2 hh.ok (by have := hh.high; omega) (by have := hh.at_; omega) (by have := hh.used; omega)).mono ?_⟩
    rintro e w2 ⟨rfl, q5⟩
    exact ⟨rfl, hb2.trans (q5.mono hb2.size)⟩
  have Hc := Lib.hid (And.intro hb0' hc0)
  have Hsz : Hid (∀ w1, Below w0.heap.size w0 w1 → Below w.heap.size w w1) := fun w1 hb1 => hb0'.trans (hb1.mono hb0'.size)
  clear h hlc hh hrest hb0 hb0' hc0 hm1 hoff ht hR
  unfold bdV
  go_enter Tryd.func29, Tryd.ntmps29
  go_wp2_with fail
  rw [← hw0]
  clear hw0
  refine Ht.out.mono ?_
  rintro e w1 ⟨rfl, hb1⟩
  have Hb1 := Lib.hid hb1
  have k0 := (Hl.out w1 (Hsz.out w1 hb1)).1
  clear hb1
  go_wp2_with fail
  go_region_held3 (fun W => W.cell? ⟨lb, 0, none⟩ = some (.pointer (some ⟨nv, 0, none⟩))) (first | exact k0 | exact k0b) (first
    | (go_at_call 41; refine (Hp.out _).mono ?_; rintro e w2 ⟨rfl, rfl⟩)
    | (go_at_call 14; refine (Hr.out _ (by exact Hb1.out.drew)).mono ?_; rintro e w3 ⟨A, c, rfl, hb3, hrs⟩; have k0b := (Hl.out w3 (Hsz.out w3 hb3)).1; have k1b := (Hl.out w3 (Hsz.out w3 hb3)).2; have Hb3 := Lib.hid hb3; have Hrs : Hid (Calls Tryd.prog 48 #[.slice A 28 c, .int .i64 (R : Int)] w3 fun e w' => e = .returned (.tuple #[.agg #[.int .u64 (b.first : Int), .int .u64 (b.next : Int), .int .i64 (b.at_ : Int), .int .i64 (b.used : Int)], .int .i64 0]) ∧ Below w0.heap.size w0 w') := hrs; clear hb3 hrs))
  clear Ht Hp Hr Hl Hs
  go_wp2_with fail
  refine Hrs.out.mono ?_
  rintro e w4 ⟨rfl, hb4'⟩
  have Hb4 := Lib.hid hb4'
  clear hb4' Hrs k0b
  go_upto_region 8 with fail
  have hb4 := Hb4.out
  obtain ⟨w5, hw5⟩ : ∃ w5, w5 = w4.alloc (.cells #[.int .u64 (b.first : Int), .int .u64 (b.next : Int), .int .i64 (b.at_ : Int), .int .i64 (b.used : Int)] 62) := ⟨_, rfl⟩
  have hlt : w.heap.size < w0.heap.size := Hc.out.2.lt
  have h5 : Cells w5 w4.heap.size 62 (bdL b) := by rw [hw5]; exact Cells.new w4 _ _
  have h0 : Cells w5 w.heap.size 62 [.int .u64 0, .int .u64 0, .int .i64 0, .int .i64 0] := by rw [hw5]; exact (Hc.out.2.move (hb4.block _ hlt)).alloc _
  have hb5 : Below w.heap.size w w5 := by rw [hw5]; exact (Hsz.out w4 hb4).alloc (Hsz.out w4 hb4).size _
  have Hend : Hid (∀ W, W = ((((w5.setCell ⟨w.heap.size, 0, none⟩ (.int .u64 (b.first : Int))).setCell ⟨w.heap.size, 1, none⟩ (.int .u64 (b.next : Int))).setCell ⟨w.heap.size, 2, none⟩ (.int .i64 (b.at_ : Int))).setCell ⟨w.heap.size, 3, none⟩ (.int .i64 (b.used : Int))).drew → Below w.heap.size w W ∧ W.cell? ⟨w.heap.size, 0, none⟩ = some (.int .u64 (b.first : Int)) ∧ W.cell? ⟨w.heap.size, 1, none⟩ = some (.int .u64 (b.next : Int)) ∧ W.cell? ⟨w.heap.size, 2, none⟩ = some (.int .i64 (b.at_ : Int)) ∧ W.cell? ⟨w.heap.size, 3, none⟩ = some (.int .i64 (b.used : Int))) := by
    rintro W rfl
    have k6 := ((((h0.set 0 (.int .u64 (b.first : Int))).set 1 (.int .u64 (b.next : Int))).set 2 (.int .i64 (b.at_ : Int))).set 3 (.int .i64 (b.used : Int))).drew
    exact ⟨drewN_below ((((hb5.setCell (Nat.le_refl _) _).setCell (Nat.le_refl _) _).setCell (Nat.le_refl _) _).setCell (Nat.le_refl _) _) 1, k6.cell rfl, k6.cell rfl, k6.cell rfl, k6.cell rfl⟩
  have H05 := Lib.hid (And.intro h0 h5)
  clear h0 h5 hb5 hb4 Hb4 Hb3 Hc Hsz Hb1 k1b hlt
  rw [← hw5]
  clear hw5
  obtain ⟨h0, h5⟩ := H05.out
  have f0 := h0.frozen 0
  have f1 := h0.frozen 1
  have f2 := h0.frozen 2
  have f3 := h0.frozen 3
  have d0 := h0.cell (i := 0) rfl
  have d1 := h0.cell (i := 1) rfl
  have d2 := h0.cell (i := 2) rfl
  have d3 := h0.cell (i := 3) rfl
  have e0 : w5.cell? ⟨w4.heap.size, 0, none⟩ = some (.int .u64 (b.first : Int)) := h5.cell rfl
  have e1 : w5.cell? ⟨w4.heap.size, 1, none⟩ = some (.int .u64 (b.next : Int)) := h5.cell rfl
  have e2 : w5.cell? ⟨w4.heap.size, 2, none⟩ = some (.int .i64 (b.at_ : Int)) := h5.cell rfl
  have e3 : w5.cell? ⟨w4.heap.size, 3, none⟩ = some (.int .i64 (b.used : Int)) := h5.cell rfl
  have Hwr : Hid (∀ W : World, Calls Tryd.prog 37 #[.string ⟨#[115, 108, 111, 116]⟩, .int .i64 0] W fun e w' => e = .returned .nilIface ∧ w' = W) := fun W => (wrap_ok _ W).mono fun _ _ ⟨a, b⟩ => ⟨a, b.symm⟩
  clear h0 h5 H05
  refine wp_region_still_tail 3 (by kernel_rfl) (by kernel_rfl) ?_
  simp only [List.take_succ_cons, List.take_zero, List.drop_succ_cons, List.drop_zero]
  repeat (first | still_step | still_call (Hwr.out _))
  refine wpStill_nil ?_
  change wpList _ _ _ _ _ w5.drew
  go_wp2_with fail
  obtain ⟨W, hW⟩ : ∃ W, W = ((((w5.setCell ⟨w.heap.size, 0, none⟩ (.int .u64 (b.first : Int))).setCell ⟨w.heap.size, 1, none⟩ (.int .u64 (b.next : Int))).setCell ⟨w.heap.size, 2, none⟩ (.int .i64 (b.at_ : Int))).setCell ⟨w.heap.size, 3, none⟩ (.int .i64 (b.used : Int))).drew := ⟨_, rfl⟩
  rw [← hW]
  obtain ⟨q4, q0, q1, q2, q3⟩ := Hend.out W hW
  refine bodyPost_ret (v := .tuple #[bdV b, .nilIface]) (by simp [results, Tryd.results29, go_sem, q0, q1, q2, q3, bdV]) rfl ⟨rfl, q4⟩
end
end Go.Proofs.YtkjogkmdldplgaaDoor

/-
  A write that outlasts cuts.
-/
namespace Go.Proofs.YtkjogkmdldplgaaDoor
open Go.RowKit

/-- old blocks that the system does not own, but for lb, are as they were; old blocks keep their owners -/
def ExtL (lb : Nat) (w : World) (O : Nat → Option Tag) (w' : World) (O' : Nat → Option Tag) : Prop := Kept (fun x => O x = none ∧ x ≠ lb) w w' ∧ ∀ x, x < w.heap.size → O' x = O x
theorem Ext.toL {lb : Nat} {w w' : World} {O O' : Nat → Option Tag} (h : Ext w O w' O') : ExtL lb w O w' O' := ⟨h.1.mono fun _ _ q => q.1, h.2⟩
theorem ExtL.refl (lb : Nat) (w : World) (O : Nat → Option Tag) : ExtL lb w O w O := ⟨Kept.refl _ _, fun _ _ => rfl⟩
theorem ExtL.trans {lb : Nat} {w w' w'' : World} {O O' O'' : Nat → Option Tag} (h : ExtL lb w O w' O') (k : ExtL lb w' O' w'' O'') : ExtL lb w O w'' O'' := by
  refine ⟨⟨k.1.os.trans h.1.os, k.1.tape.trans h.1.tape, k.1.output.trans h.1.output, Nat.le_trans h.1.size k.1.size, fun b hb hO => ?_⟩, fun b hb => (k.2 b (Nat.lt_of_lt_of_le hb h.1.size)).trans (h.2 b hb)⟩
  exact (k.1.block b (Nat.lt_of_lt_of_le hb h.1.size) ⟨(h.2 b hb).trans hO.1, hO.2⟩).trans (h.1.block b hb hO)
theorem Below.kept {w w' : World} (h : Below w.heap.size w w') (K : Nat → Prop) : Kept K w w' := ⟨h.os, h.tape, h.output, h.size, fun b hb _ => h.block b hb⟩
theorem Below.ext {w w' : World} {O : Nat → Option Tag} (h : Below w.heap.size w w') : Ext w O w' O := ⟨Below.kept h _, fun _ _ => rfl⟩
theorem SysAt.below {w w' : World} {O : Nat → Option Tag} {pw nv : Nat} {P : Pow} {D : Dev} (h : SysAt w O pw P nv D) (hb : Below w.heap.size w w') : SysAt w' O pw P nv D := h.kept (Below.kept hb _)
theorem LogC.move {w w' : World} {lb nv R : Nat} (h : LogC w lb nv R) (hb : w'.heap[lb]? = w.heap[lb]?) : LogC w' lb nv R := by
  obtain ⟨a, b, c, d, hc⟩ := h
  exact ⟨a, b, c, d, hc.move hb⟩
theorem LogC.lt {w : World} {lb nv R : Nat} (h : LogC w lb nv R) : lb < w.heap.size := by
  obtain ⟨a, b, c, d, hc⟩ := h
  exact hc.lt
theorem LogC.cell0 {w : World} {lb nv R : Nat} (h : LogC w lb nv R) : w.cell? ⟨lb, 0, none⟩ = some (.pointer (some ⟨nv, 0, none⟩)) := by
  obtain ⟨a, b, c, d, hc⟩ := h
  exact hc.cell rfl
theorem LogC.cell1 {w : World} {lb nv R : Nat} (h : LogC w lb nv R) : w.cell? ⟨lb, 1, none⟩ = some (.int .i64 (R : Int)) := by
  obtain ⟨a, b, c, d, hc⟩ := h
  exact hc.cell rfl
theorem put_one (D : Dev) (a : Nat) (l : List UInt8) : (D.putAll a [l]).mem = splat D.mem a l ∧ (D.putAll a [l]).pending = D.pending + l.length := by
  show (D.put a l).mem = _ ∧ (D.put a l).pending = _
  unfold Dev.put
  split
  · rename_i e; subst e; exact ⟨(splat_nil _ _).symm, rfl⟩
  · exact ⟨rfl, rfl⟩
/-- one part is written -/
theorem write_one (pw nv n a : Nat) (D : Dev) (O : Nat → Option Tag) (A : Option Addr) (c : Nat) (l : List UInt8) (w : World) (h : SysAt w O pw (Pk n) nv D) (hr : RB w w.heap.size A l) (hA : l ≠ [] → ∀ ad, A = some ad → O ad.block = none) (hf : a + l.length ≤ D.mem.length) (hp : D.pending ≤ 1000000000) (hn : n ≤ 1000000000) :
    Calls Tryd.prog 47 #[.pointer (some ⟨nv, 0, none⟩), .int .i64 (a : Int), .slice (some ⟨w.heap.size, 0, none⟩) 1 1] (w.alloc (.cells #[.slice A l.length c] 35)) fun e w' => e = .returned (.int .i64 0) ∧ ∃ O', SysAt w' O' pw (Pk (n + 1)) nv (D.putAll a [l]) ∧ Ext w O w' O' := by
  have hN := h.ok.high
  have e : total [l] = l.length := by simp [total]
  have hfit : fitB D.mem.length (a : Int) [l] = true := by
    unfold fitB
    rw [e]
    exact decide_eq_true ⟨by omega, by omega⟩
  obtain ⟨e1, e2, e3⟩ := wr_ok n D (a : Int) [l] hfit
  have hp1 := PartsOk.one (t := 35) (c := c) h hr hA
  have := nwrite_any pw nv (Pk n) D O (a : Int) w.heap.size 1 [l] _ (h.alloc _) hp1 (by simp) (by rw [e]; omega) (by show n ≤ _; omega) (Nat.zero_le _) (by omega)
  rw [e1, e2, e3] at this
  refine this.mono ?_
  rintro e w' ⟨O', he, s1, s2⟩
  exact ⟨he, O', s1, (Below.ext ((Below.refl _ w).alloc (Nat.le_refl _) _)).trans s2⟩

section
set_option maxRecDepth 20000
set_option maxHeartbeats 2000000
theorem lpersist_any (pw nv lb R n a : Nat) (D : Dev) (O : Nat → Option Tag) (A : Option Addr) (c : Nat) (l : List UInt8) (w : World) (h : SysAt w O pw (Pk n) nv D) (hl : LogC w lb nv R) (hlo : O lb = none) (hr : RB w w.heap.size A l) (hA : l ≠ [] → ∀ ad, A = some ad → O ad.block = none) (hf : a + l.length ≤ D.mem.length) (hp : D.pending ≤ 1000000000) (hn : n ≤ 1000000000) :
    Calls Tryd.prog 40 #[.pointer (some ⟨lb, 0, none⟩), .int .i64 (a : Int), .slice A l.length c] w fun e w' => e = .returned .nilIface ∧ ∃ O', SysAt w' O' pw (Pk (n + 2)) nv ⟨splat D.mem a l, [], 0⟩ ∧ Ext w O w' O' := by
  have Hw := Lib.hid (write_one pw nv n a D O A c l w h hr hA hf hp hn)
  have Hp : Hid (∀ w1 O', SysAt w1 O' pw (Pk (n + 1)) nv (D.putAll a [l]) → Ext w O w1 O' → w1.cell? ⟨lb, 0, none⟩ = some (.pointer (some ⟨nv, 0, none⟩)) ∧ Calls Tryd.prog 51 #[.pointer (some ⟨nv, 0, none⟩)] w1 fun e w' => e = .returned (.int .i64 0) ∧ ∃ O', SysAt w' O' pw (Pk (n + 2)) nv ⟨splat D.mem a l, [], 0⟩ ∧ Ext w O w' O') := by
    intro w1 O' s1 s2
    obtain ⟨q1, q2⟩ := put_one D a l
    obtain ⟨e1, e2, e3⟩ := per_ok (n + 1) (D.putAll a [l])
    refine ⟨(hl.move (s2.1.block lb hl.lt hlo)).cell0, ?_⟩
    have hh := h.ok.high
    have := persist_any pw nv (Pk (n + 1)) (D.putAll a [l]) O' w1 s1 (by rw [q2]; omega) (by show n + 1 ≤ _; omega) (Nat.zero_le _)
    rw [e1, e2, e3] at this
    refine this.mono ?_
    rintro e w' ⟨O2, he, t1, t2⟩
    refine ⟨he, O2, ?_, s2.trans t2⟩
    rw [← q1]
    exact t1
  have k0 := hl.cell0
  have Hwr : Hid (∀ (s : Value) (W : World), Calls Tryd.prog 37 #[s, .int .i64 0] W fun e w' => e = .returned .nilIface ∧ W = w') := fun s W => wrap_ok s W
  generalize l.length = L at *
  clear h hl hr hf hp hn
  go_enter Tryd.func40, Tryd.ntmps40
  go_wp2_with fail
  refine Hw.out.mono ?_
  rintro e w1 ⟨rfl, O1, s1, s2⟩
  obtain ⟨k1, hp2⟩ := Hp.out w1 O1 s1 s2
  have Hp2 := Lib.hid hp2
  clear hp2 s1 s2 Hp Hw k0
  go_wp2_with fail
  refine Hp2.out.mono ?_
  rintro e w2 ⟨rfl, hq⟩
  have Hq := Lib.hid hq
  clear hq
  go_wp2_with fail
  refine (Hwr.out _ _).mono ?_
  rintro e w3 ⟨rfl, rfl⟩
  go_wp2_with fail
  go_ret
  exact ⟨rfl, Hq.out⟩
end
end Go.Proofs.YtkjogkmdldplgaaDoor

/-
  The ring is read.
-/
namespace Go.Proofs.YtkjogkmdldplgaaDoor
open Go.RowKit

def lenV : Value → Nat
  | .slice _ l _ => l
  | _ => 0
/-- min of two numbers, at a step of a region that draws its order -/
theorem step_min {w : World} {ops : Array Oper} {K : Act → World → Prop} {E : Prop} {o : Oper} {a : Act} {Q : Exit → Act → World → Prop} (hgd : o.guard = none) (x y : Operand) (t : TypeId)
    (ho : o.op = .call { callee := .builtin .min, args := #[x, y], argTypes := #[t, t] }) (p q r : Int) (hx : a.eval x = .int .i64 p) (hy : a.eval y = .int .i64 q) (hr : (if q < p then q else p) = r)
    (h : K (a.put o.dst (.int .i64 r)) w) : if Region.wanted o (yielded ops a.tmps) = true then Oper.wp Tryd.prog o a w K Q else E := by
  have hw : Region.wanted o (yielded ops a.tmps) = true := by simp [Region.wanted, hgd]
  rw [if_pos hw]
  have run : (Builtin.min_ #[t, t] o.type #[.int .i64 p, .int .i64 q]).run Tryd.prog w = .ok (.int .i64 r) w := by rw [run_min_int2, hr]
  unfold Oper.wp execOp
  simp only [ho, resolve, invoke, builtin, Sem.run_bind, Sem.run_pure, Result.andThen_ok, List.map_toArray, List.map_cons, List.map_nil, hx, hy, run]
  exact h

section
set_option maxRecDepth 20000
set_option maxHeartbeats 4000000
theorem lread_any (pw nv lb R a n : Nat) (P : Pow) (D : Dev) (O : Nat → Option Tag) (w : World) (h : SysAt w O pw P nv D) (hoff : P.off = false) (hl : LogC w lb nv R) (hR : R = D.mem.length - 57) (hR0 : 0 < R) (ha : a ≤ 1000000000) (hn : n ≤ 67108864) :
    Calls Tryd.prog 31 #[.pointer (some ⟨lb, 0, none⟩), .int .i64 (a : Int), .int .i64 (n : Int)] w fun e w' => ∃ v, e = .returned (.tuple #[v, .nilIface]) ∧ Own w' w.heap.size v (cyc D.mem R a n) ∧ Below w.heap.size w w' := by
  obtain ⟨cs, hown, hmk⟩ := make_cap n (by omega)
  have Hown := Lib.hid hown
  have hmk' := hmk w
  have hmk2 : (Instr.makeSlice 35 (.int .i64 0) (.int .i64 (n : Int))).run Tryd.prog w = .ok (.slice (some ⟨w.heap.size, 0, none⟩) 0 n) (w.alloc (.cells cs 5)) := hmk'
  have hhi := h.ok.high
  have Hc : Hid (∀ w1, Below w.heap.size w w1 → w1.cell? ⟨lb, 0, none⟩ = some (.pointer (some ⟨nv, 0, none⟩)) ∧ w1.cell? ⟨lb, 1, none⟩ = some (.int .i64 (R : Int))) := fun w1 hb =>
    ⟨(hl.move (hb.block lb hl.lt)).cell0, (hl.move (hb.block lb hl.lt)).cell1⟩
  have Hrd : Hid (∀ w1 k q a' A1 c1, Below w.heap.size w w1 → Own w1 w.heap.size (.slice A1 k c1) (cyc D.mem R a k) → a' = (a + k) % R → a' + q ≤ R → Calls Tryd.prog 14 #[.pointer (some ⟨nv, 0, none⟩), .int .i64 ((57 + a' : Nat) : Int), .int .i64 (q : Int)] w1 fun e w' => ∃ A c, e = .returned (.tuple #[.slice A q c, .int .i64 0]) ∧ RB w' w'.heap.size A (cyc D.mem R (a + k) q) ∧ Below w.heap.size w w' ∧ Own w' w.heap.size (.slice A1 k c1) (cyc D.mem R a k)) := by
    intro w1 k q a' A1 c1 hb ho hak hq
    have := read_ok pw nv P D O (57 + a') q w1 (h.below hb) hoff (by omega)
    refine this.mono ?_
    rintro e w' ⟨A, c, rfl, q1, q2, q3, q4⟩
    rw [← cyc_mod, ← hak, cyc_flat _ _ _ _ hq (by omega)]
    exact ⟨A, c, rfl, q1, hb.trans (q4.mono hb.size), ho.below q4⟩
  have hw1 : w.alloc (.cells cs 5) = w.alloc (.cells cs 5) := rfl
  have k1 := (Hc.out (w.alloc (.cells cs 5)) ((Below.refl _ w).alloc (Nat.le_refl _) _)).2
  have hRi : ¬ R = 0 := by omega
  have htm : (a : Int).tmod (R : Int) = ((a % R : Nat) : Int) := Int.ofNat_tmod a R
  have Hlt : Hid ((a % R : Nat) < R) := Nat.mod_lt _ hR0
  have hR' : (R : Int) ≤ 67108864 := by omega
  clear h hoff hl hR hmk hown hmk' hhi hw1
  go_enter Tryd.func31, Tryd.ntmps31
  go_wp2_with fail
  obtain ⟨r0, hr0⟩ : ∃ r0 : Nat, r0 = a % R := ⟨_, rfl⟩
  rw [show (a : Int) % (R : Int) = (r0 : Int) by rw [hr0]; rfl]
  have Hr0 : Hid (r0 = a % R) := hr0
  rw [← hr0] at Hlt
  clear hr0
  have Hn := Lib.hid hn
  have Ha := Lib.hid ha
  clear ha htm hmk2 k1
  go_loopw [1, 8] (fun av bv wr => ∃ k a' : Nat, av = .int .i64 (a' : Int) ∧ k ≤ n ∧ a' < R ∧ Hid (k < n → a' = (a + k) % R) ∧ Hid (Own wr w.heap.size bv (cyc D.mem R a k)) ∧ Hid (Below w.heap.size w wr)) (fun _ bv _ => n - lenV bv)
  case atStart => exact ⟨0, r0, rfl, Nat.zero_le _, Hlt.out, (fun _ => by rw [Nat.add_zero]; exact Hr0.out), Hown.out w w.heap.size (Nat.le_refl _), (Below.refl _ w).alloc (Nat.le_refl _) _⟩
  case round =>
    obtain ⟨k, a', rfl, hk, ha', hak, hown, hbl⟩ := hrel
    obtain ⟨A, c, rfl, h1, h2, h3⟩ := hown.out.rb
    rw [cyc_length] at *
    by_cases hkn : k < n
    · have hc := Hc.out wr hbl.out
      have k0 := hc.1
      have k1 := hc.2
      obtain ⟨q, hq⟩ : ∃ q : Nat, q = min (n - k) (R - a') := ⟨_, rfl⟩
      have hq1 : a' + q ≤ R := by omega
      have Hr := Lib.hid (Hrd.out wr.drew k q a' A c (drewN_below hbl.out 1) hown.out (hak.out hkn) hq1)
      have hkn' : (k : Int) < (n : Int) := by omega
      have hn' : (n : Int) ≤ 67108864 := by have := Hn.out; omega
      clear h1 h2 h3 hown hc
      go_wp2_with fail
      have Hmin : Hid ((if IntKind.i64.wrap ((R : Int) - (a' : Int)) < IntKind.i64.wrap ((n : Int) - (k : Int)) then IntKind.i64.wrap ((R : Int) - (a' : Int)) else IntKind.i64.wrap ((n : Int) - (k : Int))) = (q : Int)) := by
        have e2 : IntKind.i64.wrap ((R : Int) - (a' : Int)) = (R : Int) - (a' : Int) := IntWalk.i64_in _ (by omega)
        have e3 : IntKind.i64.wrap ((n : Int) - (k : Int)) = (n : Int) - (k : Int) := IntWalk.i64_in _ (by omega)
        have e4 : (if (R : Int) - (a' : Int) < (n : Int) - (k : Int) then (R : Int) - (a' : Int) else (n : Int) - (k : Int)) = (q : Int) := by split <;> omega
        show _ = _
        rw [e2, e3, e4]
      have Hr2 : Hid (Calls Tryd.prog 14 #[.pointer (some ⟨nv, 0, none⟩), .int .i64 (IntKind.i64.wrap (57 + (a' : Int))), .int .i64 (q : Int)] wr.drew fun e w' => ∃ A2 c2, e = .returned (.tuple #[.slice A2 q c2, .int .i64 0]) ∧ RB w' w'.heap.size A2 (cyc D.mem R (a + k) q) ∧ Below w.heap.size w w' ∧ Own w' w.heap.size (.slice A k c) (cyc D.mem R a k)) := by
        have e1 : IntKind.i64.wrap (57 + (a' : Int)) = ((57 + a' : Nat) : Int) := by rw [IntWalk.i64_in _ (by omega)]; omega
        show Calls _ _ _ _ _
        rw [e1]
        exact Hr.out
      have Hq : Hid (q = min (n - k) (R - a')) := hq
      clear Hr hq
      go_region_held3 (fun W => W.cell? ⟨lb, 0, none⟩ = some (.pointer (some ⟨nv, 0, none⟩)) ∧ W.cell? ⟨lb, 1, none⟩ = some (.int .i64 (R : Int))) (first | exact ⟨k0, k1⟩ | exact j01) (first
        | (skip; (refine step_min rfl (.tmp 33) (.tmp 39) 3 rfl _ _ (q : Int) rfl rfl Hmin.out ?_))
        | (go_at_call 14; refine Hr2.out.mono ?_; rintro e w3 ⟨A3, c3, rfl, hr3, hb3, ho3⟩; have j01 := Hc.out w3 hb3; have H3 := Lib.hid (And.intro hr3 (And.intro hb3 ho3)); clear hr3 hb3 ho3))
      all_goals
        have Hlen : Hid ((cyc D.mem R a k).length + (cyc D.mem R (a + k) q).length ≤ 140737488355327) := by show _ ≤ _; rw [cyc_length, cyc_length]; have := Hn.out; have := Hq.out; omega
        have Hz : Hid (k + q < n → 0 = (a + (k + q)) % R) := fun hz => by
          have h1 := hak.out hkn
          have h2 := Hq.out
          rw [← Nat.add_assoc, ← Nat.mod_add_mod, ← h1, show a' + q = R by omega, Nat.mod_self]
        have Hkq : Hid (k + q ≤ n ∧ 1 ≤ q) := by show _ ∧ _; have h2 := Hq.out; omega
        clear k0 k1 j01
        go_wp2_with (at_builtin; refine app_bytes rfl (.tmp 48) (.tmp 49) rfl w.heap.size _ _ rfl H3.out.2.2 _ A3 q c3 _ rfl (cyc_length _ _ _ _).symm H3.out.1 Hlen.out H3.out.2.1.size ?_; intro v4 w4 hown4 hbel4 _; have Hown4 : Hid (Own w4 w.heap.size v4 (cyc D.mem R a (k + q))) := (by show Own _ _ _ _; rw [cyc_add]; exact hown4); have Hbel4 := Lib.hid (H3.out.2.1.trans hbel4); obtain ⟨A4, c4, rfl, _, _, _⟩ := Hown4.out.rb; clear hown4 hbel4)
        go_roundw
        case rel => exact ⟨k + q, 0, rfl, Hkq.out.1, Nat.lt_of_le_of_lt (Nat.zero_le _) ha', Hz.out, Hown4.out, Hbel4.out⟩
        case measure => have := Hkq.out; simp only [lenV, cyc_length]; omega
    · obtain rfl : k = n := by omega
      clear hkn
      go_wp2_with fail
      go_ret2
      exact ⟨_, rfl, hown.out, hbl.out⟩
end
end Go.Proofs.YtkjogkmdldplgaaDoor
