/-
  A record whose writing the power cuts.
-/
import Derived.Test.YtkjogkmdldplgaaDoorKLgAppend
namespace Go.Proofs.YtkjogkmdldplgaaDoor
open Go.RowKit

section
set_option maxRecDepth 20000
set_option maxHeartbeats 4000000
theorem LG.append_cut {w : World} {M : Nat → Prop} {pw nv lb N n : Nat} {picks : List Int} {b : Bd} {rs : List (List UInt8)} {A : Option Addr} {c : Nat} {l : List UInt8} (h : LG w M pw nv lb (PArm n picks) N b rs) (hr : RB w w.heap.size A l) (hA : l ≠ [] → ∀ ad, A = some ad → ¬ M ad.block) (hc : l.length ≤ c) (hl6 : l.length ≤ 65536) (hl : (l.length : Int) ≤ roomV (N - 57) b.used) (hn : n ≤ 900000) (hg : ErrType w) (hM0 : ¬ M 0) :
    Calls Tryd.prog 12 #[.pointer (some ⟨lb, 0, none⟩), .slice A l.length c] w fun e w' => e = .returned (.tuple #[.int .u64 0, .int .i64 8]) ∧ ∃ M', LG w' M' pw nv lb (POff n) N b rs ∧ ExtM w M w' M' := by
  obtain ⟨O, m, h1, h2, h3, h4, h5, h6, hlook⟩ := append_start h rfl hr hA hc hl6
  have Hl := Lib.hid hlook
  have Hw : Hid (∀ w5 A5 c5, SysAt w5 O pw (PArm n picks) nv ⟨m, [], 0⟩ → LogC w5 lb nv (N - 57) → RB w5 w5.heap.size A5 (encR l) → (encR l).length ≤ c5 → (∀ ad, A5 = some ad → O ad.block = none) → Kept (fun x => x ≠ lb) w w5 →
      Calls Tryd.prog 27 #[.pointer (some ⟨lb, 0, none⟩), .int .i64 ((b.at_ : Int) + (b.used : Int)), .slice A5 (encR l).length c5] w5 fun e w6 => ∃ fp, e = .returned (.iface 63 (.pointer (some ⟨fp, 0, none⟩))) ∧
        Calls Tryd.prog 25 #[.iface 63 (.pointer (some ⟨fp, 0, none⟩))] w6 fun e w7 => e = .returned (.int .i64 8) ∧ ∃ M', LG w7 M' pw nv lb (POff n) N b rs ∧ ExtM w M w7 M') := by
    intro w5 A5 c5 x2 x3 x4 x5 x6 x7
    have hnu : (numBytes l.length).length ≤ 4 := numBytes_len 3 l.length (by have h128 : 128 ^ 4 = 268435456 := (by decide); omega)
    have hel : (encR l).length = (numBytes l.length).length + l.length := encR_length l
    have hlR : (encR l).length ≤ N - 57 := by
      unfold roomV at hl
      have := h5.low
      omega
    have hus := h5.used
    have hat := h5.at_
    have hhi := h5.high
    have e1 : (b.at_ : Int) + (b.used : Int) = ((b.at_ + b.used : Nat) : Int) := by omega
    rw [e1]
    refine (lwrite_cut pw nv lb (N - 57) n (b.at_ + b.used) picks m O A5 c5 (encR l) w5 x2 x3 h2 x4 (fun _ ad e => x6 ad e) x5 (encR_pos l) hlR (by rw [← h4]) h5.low (by omega) (by omega)).mono ?_
    rintro e w6 ⟨fp, he, hf, O6, s6, x6'⟩
    have hgl : 0 ≠ lb := fun e => hM0 ((h6 _).2 (.inr e))
    have hgo : O 0 = none := by
      cases hO : O 0 with
      | none => rfl
      | some t => exact absurd ((h6 _).2 (.inl (by rw [hO]; simp))) hM0
    have hglt : 0 < w.heap.size := World.block_lt_of_cell? w ⟨0, 0, none⟩ hg
    have hg6 : ErrType w6 := (World.cell?_of_block (w := w) ((x6'.1.block _ (Nat.lt_of_lt_of_le hglt x7.size) hgo).trans (x7.block _ hglt hgl))).trans hg
    refine ⟨fp, he, (errno_fault fp 8 w6 hg6 hf).mono ?_⟩
    rintro e w7 ⟨rfl, hb7⟩
    have l6 : LogC w6 lb nv (N - 57) := x3.move (x6'.1.block lb x3.lt h2)
    have kx : ExtL lb w O w5 O := ⟨x7.mono fun x _ q => q.2, fun _ _ => rfl⟩
    have kx2 : ExtL lb w O w7 O6 := kx.trans ((x6'.toL).trans ⟨Below.kept hb7 _, fun _ _ => rfl⟩)
    exact ⟨rfl, LG.of_ext h3 h6 h2 kx2 (s6.below hb7) (l6.move (hb7.block lb l6.lt)) h4 h5⟩
  have hlen : (l.length : Int) ≤ 65536 := by omega
  have hrm : (l.length : Int) ≤ roomV (N - 57) b.used := hl
  have hwa : (b.at_ : Int) ≤ 67108864 := by have := h5.ok.at_; omega
  have hwu : (b.used : Int) ≤ 67108864 := by have := h5.ok.used; omega
  generalize roomV (N - 57) b.used = rm at *
  generalize (encR l).length = el at *
  generalize l.length = ll at *
  clear h h1 h2 h3 h4 h5 h6 hlook hr hA hc hl6 hl hg hM0
  go_enter Tryd.func12, Tryd.ntmps12
  go_wp2_with fail
  refine Hl.out.mono ?_
  rintro e w1 ⟨rfl, _, hq⟩
  obtain ⟨hbx, hroom⟩ := hq _ rfl
  obtain ⟨c0, c1, c2, c3⟩ := hbx.four
  have Hroom := Lib.hid hroom
  clear hq hbx hroom Hl
  go_wp2_with fail
  refine Hroom.out.mono ?_
  rintro e w3 ⟨rfl, hbx3, hbytes⟩
  have Hby := Lib.hid (hbytes _ rfl)
  clear hbytes hbx3 Hroom c0 c1 c2 c3
  go_wp2_with fail
  refine Hby.out.mono ?_
  rintro e w5 ⟨A5, c5, rfl, x1, x2, x3, x4, x5, x6, x7, x8, x9⟩
  have Hw5 := Lib.hid (Hw.out w5 A5 c5 x2 x3 x4 x5 x6 x7)
  obtain ⟨c0, c1, c2, c3⟩ := x1.four
  clear x1 x2 x3 x4 x5 x6 x7 x8 x9 Hby Hw
  go_wp2_with fail
  refine Hw5.out.mono ?_
  rintro e w6 ⟨fp, rfl, her⟩
  have Her := Lib.hid her
  clear her Hw5 c0 c1 c2 c3
  go_wp2_with fail
  refine Her.out.mono ?_
  rintro e w7 ⟨rfl, hq7⟩
  have Hq := Lib.hid hq7
  clear hq7 Her
  go_wp2_with fail
  go_ret2
  exact ⟨rfl, Hq.out⟩
end
end Go.Proofs.YtkjogkmdldplgaaDoor
