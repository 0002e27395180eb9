/-
  The ring is written.
-/
import Derived.Test.YtkjogkmdldplgaaDoorKLgTurn
namespace Go.Proofs.YtkjogkmdldplgaaDoor
open Go.RowKit

theorem slice_high (W : World) (b o k n c : Nat) (h1 : k ≤ n) (h2 : n ≤ c) : (Instr.sliceAt 35 (.slice (some ⟨b, o, none⟩) n c) none (some (.int .i64 (k : Int))) none).run Tryd.prog W = .ok (.slice (some ⟨b, o, none⟩) k c) W := by
  have h3 : (k : Int) ≤ (n : Int) := by omega
  have h5 : (k : Int) ≤ (c : Int) := by omega
  simp [go_sem, h3, h5, sliced, Addr.add]
theorem Ext.of_drew {w w' : World} {O O' : Nat → Option Tag} (h : Ext w.drew O w' O') : Ext w O w' O' := ⟨⟨h.1.os, h.1.tape, h.1.output, h.1.size, h.1.block⟩, h.2⟩
theorem cutAt_flat (b o c k : Nat) : ∃ o', cutAt (some ⟨b, o, none⟩) c k = some ⟨b, o', none⟩ := by
  unfold cutAt
  split
  · exact ⟨o, rfl⟩
  · exact ⟨o + k, by show some (Addr.add ⟨b, o, none⟩ k) = _; rw [add_flat]⟩
/-- how far the ring is written -/
def RingW (w wr : World) (O : Nat → Option Tag) (pw nv n R a : Nat) (D : Dev) (l : List UInt8) (k b0 o' c' : Nat) : Prop :=
  (∃ O' D' n', SysAt wr O' pw (Pk n') nv D' ∧ Ext w O wr O' ∧ Wrote D.mem D'.mem R a (l.take k) ∧ D'.pending = D.pending + k ∧ n' ≤ n + k) ∧ RB wr w.heap.size (some ⟨b0, o', none⟩) (l.drop k) ∧ l.length - k ≤ c'

section
set_option maxRecDepth 20000
set_option maxHeartbeats 4000000
theorem lwrite_any (pw nv lb R n a : Nat) (D : Dev) (O : Nat → Option Tag) (A : Option Addr) (c : Nat) (l : List UInt8) (w : World) (h : SysAt w O pw (Pk n) nv D) (hl : LogC w lb nv R) (hlo : O lb = none) (hr : RB w w.heap.size A l) (hA : l ≠ [] → ∀ ad, A = some ad → O ad.block = none) (hc : l.length ≤ c) (hl0 : 0 < l.length) (hlR : l.length ≤ R) (hR : R = D.mem.length - 57) (hm : 256 ≤ D.mem.length) (ha : a ≤ 1000000000) (hp : D.pending = 0) (hn : n ≤ 900000000) :
    Calls Tryd.prog 27 #[.pointer (some ⟨lb, 0, none⟩), .int .i64 (a : Int), .slice A l.length c] w fun e w' => e = .returned .nilIface ∧ ∃ O' D' n', SysAt w' O' pw (Pk n') nv D' ∧ Ext w O w' O' ∧ Wrote D.mem D'.mem R a l ∧ D'.pending = l.length ∧ n' ≤ n + l.length := by
  obtain ⟨b0, o, rfl, hb0⟩ := hr.flat hl0
  have ho0 : O b0 = none := hA (by intro e; rw [e] at hl0; simp at hl0) _ rfl
  have hhi := h.ok.high
  have hR0 : 0 < R := by omega
  have Hst : Hid (RingW w w O pw nv n R a D l 0 b0 o c) := ⟨⟨O, D, n, h, Ext.refl _ _, by rw [List.take_zero]; exact Wrote.refl _ _ _, by omega, by omega⟩, hr, by omega⟩
  have Hend : Hid (∀ wr o' c', RingW w wr O pw nv n R a D l l.length b0 o' c' → ∃ O' D' n', SysAt wr O' pw (Pk n') nv D' ∧ Ext w O wr O' ∧ Wrote D.mem D'.mem R a l ∧ D'.pending = l.length ∧ n' ≤ n + l.length) := by
    rintro wr o' c' ⟨⟨O', D', n', s1, s2, s3, s4, s5⟩, _, _⟩
    rw [List.take_length] at s3
    exact ⟨O', D', n', s1, s2, s3, by omega, s5⟩
  have Hc : Hid (∀ wr k o' c', RingW w wr O pw nv n R a D l k b0 o' c' → wr.cell? ⟨lb, 0, none⟩ = some (.pointer (some ⟨nv, 0, none⟩)) ∧ wr.cell? ⟨lb, 1, none⟩ = some (.int .i64 (R : Int)) ∧ ∀ ob, (wr.drew.alloc ob).cell? ⟨lb, 0, none⟩ = some (.pointer (some ⟨nv, 0, none⟩))) := by
    rintro wr k o' c' ⟨⟨O', D', n', s1, s2, s3, s4, s5⟩, _, _⟩
    have := hl.move (s2.1.block lb hl.lt hlo)
    exact ⟨this.cell0, this.cell1, fun ob => (show LogC (wr.drew.alloc ob) lb nv R from LogC.move (w := wr) this (Below.heap_alloc wr.drew ob lb this.lt)).cell0⟩
  have Hw : Hid (∀ wr k q a' o' c', RingW w wr O pw nv n R a D l k b0 o' c' → k + q ≤ l.length → 1 ≤ q → a' = (a + k) % R → a' + q ≤ R →
      Calls Tryd.prog 47 #[.pointer (some ⟨nv, 0, none⟩), .int .i64 ((57 + a' : Nat) : Int), .slice (some ⟨wr.heap.size, 0, none⟩) 1 1] (wr.drew.alloc (.cells #[.slice (some ⟨b0, o', none⟩) q c'] 35)) fun e w' => e = .returned (.int .i64 0) ∧
        ∀ o2, cutAt (some ⟨b0, o', none⟩) c' q = some ⟨b0, o2, none⟩ → RingW w w' O pw nv n R a D l (k + q) b0 o2 (c' - q)) := by
    rintro wr k q a' o' c' ⟨⟨O', D', n', s1, s2, s3, s4, s5⟩, s6, s7⟩ hkq hq0 hak hq
    have hlen : D'.mem.length = D.mem.length := s3.1
    have hsub : ((l.drop k).take q).length = q := by simp; omega
    have hbl : b0 < w.heap.size := hb0
    have ho1 : O' b0 = none := (s2.2 b0 hbl).trans ho0
    have := write_one pw nv n' (57 + a') D' O' (some ⟨b0, o', none⟩) c' ((l.drop k).take q) wr.drew (s1.drewN 1) ((s6.take q).wide s2.1.size) (fun _ ad e => by cases e; exact ho1) (by rw [hsub]; omega) (by omega) (by omega)
    rw [hsub] at this
    refine this.mono ?_
    rintro e w' ⟨he, O2, t1, t2⟩
    refine ⟨he, fun o2 ho2 => ?_⟩
    obtain ⟨q1, q2⟩ := put_one D' (57 + a') ((l.drop k).take q)
    have t2' : Ext wr O' w' O2 := t2.of_drew
    have hrb := s6.cut (cap := c') (k := q) (by simp; omega)
    rw [ho2, List.drop_drop] at hrb
    refine ⟨⟨O2, _, n' + 1, t1, s2.trans t2', ?_, by rw [q2, s4, hsub]; omega, by omega⟩, ?_, by omega⟩
    · rw [q1]
      have htk : (l.take k).length = k := by simp; omega
      have hw := s3.more (c := (l.drop k).take q) hR0 (by omega) (by rw [htk, hsub]; omega) (by rw [htk, hsub, ← hak]; exact hq)
      rw [htk, ← hak] at hw
      have e : l.take k ++ (l.drop k).take q = l.take (k + q) := by rw [List.take_add]
      rw [e] at hw
      exact hw
    · exact hrb.kept t2'.1 (fun _ ad e => by cases e; exact ho1) s2.1.size
  have Hn : Hid (R ≤ 67108864 ∧ l.length ≤ R ∧ 0 < R) := ⟨by omega, hlR, hR0⟩
  have k1 := hl.cell1
  have hRi : ¬ R = 0 := by omega
  have htm : (a : Int).tmod (R : Int) = ((a % R : Nat) : Int) := Int.ofNat_tmod a R
  have Hlt : Hid ((a % R : Nat) < R) := Nat.mod_lt _ hR0
  have hR' : (R : Int) ≤ 67108864 := by omega
  have hL' : (l.length : Int) ≤ 67108864 := by omega
  generalize hL : l.length = L at *
  have HL : Hid (l.length = L) := hL
  clear h hl hr hm hhi hR hA hp hn ha hlR hl0 hR0 hL
  go_enter Tryd.func27, Tryd.ntmps27
  go_wp2_with fail
  obtain ⟨r0, hr0⟩ : ∃ r0 : Nat, r0 = a % R := ⟨_, rfl⟩
  rw [show (a : Int) % (R : Int) = (r0 : Int) by rw [hr0]; rfl]
  have Hr0 : Hid (r0 = a % R) := hr0
  rw [← hr0] at Hlt
  clear hr0 htm k1
  go_loopw [1, 2] (fun av bv wr => ∃ k a' o' c' : Nat, av = .int .i64 (a' : Int) ∧ bv = .slice (some ⟨b0, o', none⟩) (L - k) c' ∧ k ≤ L ∧ a' < R ∧ Hid (k < L → a' = (a + k) % R) ∧ Hid (RingW w wr O pw nv n R a D l k b0 o' c')) (fun _ bv _ => lenV bv)
  case atStart => exact ⟨0, r0, o, c, rfl, rfl, Nat.zero_le _, Hlt.out, (fun _ => by rw [Nat.add_zero]; exact Hr0.out), Hst.out⟩
  case round =>
    obtain ⟨k, a', o', c', rfl, rfl, hk, ha', hak, hst⟩ := hrel
    obtain ⟨M, hM⟩ : ∃ M, M = L - k := ⟨_, rfl⟩
    rw [← hM]
    by_cases hkL : 0 < M
    · obtain ⟨q, hq⟩ : ∃ q : Nat, q = min M (R - a') := ⟨_, rfl⟩
      have hc := Hc.out wr k o' c' hst.out
      have k0 := hc.1
      have k1 := hc.2.1
      have k2 := hc.2.2
      obtain ⟨o2, ho2⟩ := cutAt_flat b0 o' c' q
      have hq1 : a' + q ≤ R := by omega
      have hq2 : k + q ≤ L := by omega
      have hq3 : 1 ≤ q := by omega
      have hq4 : q ≤ M := by omega
      have hMc : M ≤ c' := by have := hst.out.2.2; have := HL.out; omega
      have hsl1 : ∀ W : World, (Instr.sliceAt 35 (.slice (some ⟨b0, o', none⟩) M c') none (some (.int .i64 (q : Int))) none).run Tryd.prog W = .ok (.slice (some ⟨b0, o', none⟩) q c') W := fun W => slice_high W b0 o' q M c' hq4 hMc
      have hsl2 : ∀ W : World, (Instr.sliceAt 35 (.slice (some ⟨b0, o', none⟩) M c') (some (.int .i64 (q : Int))) none none).run Tryd.prog W = .ok (.slice (some ⟨b0, o2, none⟩) (L - (k + q)) (c' - q)) W := fun W => by
        rw [slice_cut W b0 o' q M c' hq4 hMc, ho2, show M - q = L - (k + q) by omega]
      have Hw1 : Hid (Calls Tryd.prog 47 #[.pointer (some ⟨nv, 0, none⟩), .int .i64 (IntKind.i64.wrap (57 + (a' : Int))), .slice (some ⟨wr.heap.size, 0, none⟩) 1 1] (wr.drew.alloc (.cells #[.slice (some ⟨b0, o', none⟩) q c'] 35)) fun e w' => e = .returned (.int .i64 0) ∧ RingW w w' O pw nv n R a D l (k + q) b0 o2 (c' - q)) := by
        have hw := Hw.out wr k q a' o' c' hst.out (by omega) hq3 (hak.out (by omega)) hq1
        have e1 : IntKind.i64.wrap (57 + (a' : Int)) = ((57 + a' : Nat) : Int) := by rw [IntWalk.i64_in _ (by omega)]; omega
        show Calls _ _ _ _ _
        rw [e1]
        exact hw.mono fun e w' ⟨he, hx⟩ => ⟨he, hx o2 ho2⟩
      have Hz : Hid (k + q < L → 0 = (a + (k + q)) % R) := fun hz => by
        have h1 := hak.out (by omega)
        rw [← Nat.add_assoc, ← Nat.mod_add_mod, ← h1, show a' + q = R by omega, Nat.mod_self]
      have Hms : Hid (k + q ≤ L ∧ L - (k + q) < L - k) := by show _ ∧ _; omega
      have hM0 : (0 : Int) < (M : Int) := by omega
      have hM1 : (M : Int) ≤ 67108864 := by omega
      have Hq0 : Hid (q = min M (R - a') ∧ M = L - k) := ⟨hq, hM⟩
      clear hq1 hq2 hq3 hq4 hMc ho2 hc hkL hM
      by_cases hm : (R : Int) - (a' : Int) < (M : Int)
      · have hqe : (R : Int) - (a' : Int) = (q : Int) := by omega
        clear hq
        go_upto_region 5 with fail
        go_region_held3 (fun W => W.cell? ⟨lb, 0, none⟩ = some (.pointer (some ⟨nv, 0, none⟩))) (first | exact k0 | exact k2 _ | exact j0) (first
          | (go_at_call 47; refine Hw1.out.mono ?_; rintro e w3 ⟨rfl, hx3⟩; have j0 := (Hc.out w3 _ _ _ hx3).1; have Hx3 := Lib.hid hx3; clear hx3))
        all_goals
          clear k0 k1 k2 j0 Hw1 hsl1
          go_wp2_with fail
          go_roundw
          case rel => exact ⟨k + q, 0, o2, _, rfl, rfl, Hms.out.1, Nat.lt_of_le_of_lt (Nat.zero_le _) ha', Hz.out, Hx3.out⟩
          case measure => have h1 := Hms.out.2; have h2 := Hq0.out.2; simp only [lenV]; omega
      · obtain rfl : q = M := by omega
        have hm' : (q : Int) ≤ (R : Int) - (a' : Int) := by omega
        clear hq hm
        go_upto_region 5 with fail
        go_region_held3 (fun W => W.cell? ⟨lb, 0, none⟩ = some (.pointer (some ⟨nv, 0, none⟩))) (first | exact k0 | exact k2 _ | exact j0) (first
          | (go_at_call 47; refine Hw1.out.mono ?_; rintro e w3 ⟨rfl, hx3⟩; have j0 := (Hc.out w3 _ _ _ hx3).1; have Hx3 := Lib.hid hx3; clear hx3))
        all_goals
          clear k0 k1 k2 j0 Hw1 hsl1
          go_wp2_with fail
          go_roundw
          case rel => exact ⟨k + q, 0, o2, _, rfl, rfl, Hms.out.1, Nat.lt_of_le_of_lt (Nat.zero_le _) ha', Hz.out, Hx3.out⟩
          case measure => have h1 := Hms.out.2; have h2 := Hq0.out.2; simp only [lenV]; omega
    · obtain rfl : M = 0 := by omega
      obtain rfl : k = L := by omega
      have He : Hid _ := Hend.out wr o' c' hst.out
      clear hkL hM hk
      go_wp2_with fail
      go_ret
      exact ⟨rfl, He.out⟩
end
end Go.Proofs.YtkjogkmdldplgaaDoor

/-
  A write of the ring that the power cuts.
-/
namespace Go.Proofs.YtkjogkmdldplgaaDoor
open Go.RowKit

def PArm (n : Nat) (picks : List Int) : Pow := ⟨false, n, 1, picks⟩
def POff (n : Nat) : Pow := ⟨true, n, 0, []⟩
theorem write_cut (pw nv n a : Nat) (picks : List Int) (m : List UInt8) (O : Nat → Option Tag) (A : Option Addr) (c : Nat) (l : List UInt8) (w : World) (h : SysAt w O pw (PArm n picks) nv ⟨m, [], 0⟩) (hr : RB w w.heap.size A l) (hA : l ≠ [] → ∀ ad, A = some ad → O ad.block = none) (hf : a + l.length ≤ m.length) (hn : n ≤ 1000000000) :
    Calls Tryd.prog 47 #[.pointer (some ⟨nv, 0, none⟩), .int .i64 (a : Int), .slice (some ⟨w.heap.size, 0, none⟩) 1 1] (w.alloc (.cells #[.slice A l.length c] 35)) fun e w' => e = .returned (.int .i64 8) ∧ ∃ O', SysAt w' O' pw (POff n) nv ⟨m, [], 0⟩ ∧ Ext w O w' O' := by
  have hN : m.length ≤ 67108864 := h.ok.high
  have e : total [l] = l.length := by simp [total]
  have hfit : fitB m.length (a : Int) [l] = true := by
    unfold fitB
    rw [e]
    exact decide_eq_true ⟨by omega, by omega⟩
  have e1 : wrCode (PArm n picks) m.length (a : Int) [l] = 8 := by unfold wrCode; rw [hfit]; rfl
  have e2 : wrD (PArm n picks) ⟨m, [], 0⟩ (a : Int) [l] = ⟨m, [], 0⟩ := by unfold wrD; rw [hfit]; rfl
  have e3 : wrP (PArm n picks) m.length (a : Int) [l] = POff n := by unfold wrP; rw [hfit]; rfl
  have hp1 := PartsOk.one (t := 35) (c := c) h hr hA
  have := nwrite_any pw nv (PArm n picks) ⟨m, [], 0⟩ O (a : Int) w.heap.size 1 [l] _ (h.alloc _) hp1 (by simp) (by rw [e]; show 0 + _ ≤ _; omega) (by show n ≤ _; omega) (by show (1 : Nat) ≤ _; omega) (by omega)
  rw [e1, e2, e3] at this
  refine this.mono ?_
  rintro e w' ⟨O', he, s1, s2⟩
  exact ⟨he, O', s1, (Below.ext ((Below.refl _ w).alloc (Nat.le_refl _) _)).trans s2⟩

section
set_option maxRecDepth 20000
set_option maxHeartbeats 4000000
theorem lwrite_cut (pw nv lb R n a : Nat) (picks : List Int) (m : List UInt8) (O : Nat → Option Tag) (A : Option Addr) (c : Nat) (l : List UInt8) (w : World) (h : SysAt w O pw (PArm n picks) nv ⟨m, [], 0⟩) (hl : LogC w lb nv R) (hlo : O lb = none) (hr : RB w w.heap.size A l) (hA : l ≠ [] → ∀ ad, A = some ad → O ad.block = none) (hc : l.length ≤ c) (hl0 : 0 < l.length) (hlR : l.length ≤ R) (hR : R = m.length - 57) (hm : 256 ≤ m.length) (ha : a ≤ 1000000000) (hn : n ≤ 900000000) :
    Calls Tryd.prog 27 #[.pointer (some ⟨lb, 0, none⟩), .int .i64 (a : Int), .slice A l.length c] w fun e w' => ∃ fp, e = .returned (faultV fp) ∧ FaultAt w' fp 8 ∧ ∃ O', SysAt w' O' pw (POff n) nv ⟨m, [], 0⟩ ∧ Ext w O w' O' := by
  obtain ⟨b0, o, rfl, hb0⟩ := hr.flat hl0
  have ho0 : O b0 = none := hA (by intro e; rw [e] at hl0; simp at hl0) _ rfl
  have hhi : m.length ≤ 67108864 := h.ok.high
  have hR0 : 0 < R := by omega
  have k0 := hl.cell0
  have k1 := hl.cell1
  have k2 : ∀ ob, (w.drew.alloc ob).cell? ⟨lb, 0, none⟩ = some (.pointer (some ⟨nv, 0, none⟩)) := fun ob => (show LogC (w.drew.alloc ob) lb nv R from LogC.move (w := w) hl (Below.heap_alloc w.drew ob lb hl.lt)).cell0
  have Hlc : Hid (∀ W O', Ext w O W O' → W.cell? ⟨lb, 0, none⟩ = some (.pointer (some ⟨nv, 0, none⟩))) := fun W O' hx => (hl.move (hx.1.block lb hl.lt hlo)).cell0
  have hRi : ¬ R = 0 := by omega
  have htm : (a : Int).tmod (R : Int) = ((a % R : Nat) : Int) := Int.ofNat_tmod a R
  have hr1 : a % R < R := Nat.mod_lt _ hR0
  obtain ⟨r0, hr0⟩ : ∃ r0 : Nat, r0 = a % R := ⟨_, rfl⟩
  rw [← hr0] at hr1
  obtain ⟨q, hq⟩ : ∃ q : Nat, q = min l.length (R - r0) := ⟨_, rfl⟩
  have hsl1 : ∀ W : World, (Instr.sliceAt 35 (.slice (some ⟨b0, o, none⟩) l.length c) none (some (.int .i64 (q : Int))) none).run Tryd.prog W = .ok (.slice (some ⟨b0, o, none⟩) q c) W := fun W => slice_high W b0 o q l.length c (by omega) hc
  have Hw1 : Hid (Calls Tryd.prog 47 #[.pointer (some ⟨nv, 0, none⟩), .int .i64 (IntKind.i64.wrap (57 + (r0 : Int))), .slice (some ⟨w.heap.size, 0, none⟩) 1 1] (w.drew.alloc (.cells #[.slice (some ⟨b0, o, none⟩) q c] 35)) fun e w' => e = .returned (.int .i64 8) ∧ ∃ O', SysAt w' O' pw (POff n) nv ⟨m, [], 0⟩ ∧ Ext w O w' O') := by
    have hsub : (l.take q).length = q := by simp; omega
    have e1 : IntKind.i64.wrap (57 + (r0 : Int)) = ((57 + r0 : Nat) : Int) := by rw [IntWalk.i64_in _ (by omega)]; omega
    have := write_cut pw nv n (57 + r0) picks m O (some ⟨b0, o, none⟩) c (l.take q) w.drew (h.drewN 1) (hr.take q) (fun _ ad e => by cases e; exact ho0) (by rw [hsub]; omega) (by omega)
    rw [hsub] at this
    show Calls _ _ _ _ _
    rw [e1]
    exact this.mono fun e w' ⟨he, O', s1, s2⟩ => ⟨he, O', s1, s2.of_drew⟩
  have hR' : (R : Int) ≤ 67108864 := by omega
  have hL' : (l.length : Int) ≤ 67108864 := by omega
  have hL0 : (0 : Int) < (l.length : Int) := by omega
  have hre : (a : Int) % (R : Int) = (r0 : Int) := by rw [hr0]; rfl
  generalize l.length = L at *
  clear h hl hr hm hhi hR hA hn ha hlR hl0 hR0 hr0
  go_enter Tryd.func27, Tryd.ntmps27
  go_wp2_with fail
  clear hre htm
  refine wp_loop_rounds 1 ?_
  rw [rounds_succ]
  have Hfin : Hid (∀ w2 w3 O2, SysAt w2 O2 pw (POff n) nv ⟨m, [], 0⟩ → Ext w O w2 O2 → FaultAt w3 w2.heap.size 8 → Below w2.heap.size w2 w3 → ∃ fp, Ending.returned (faultV w2.heap.size) = .returned (faultV fp) ∧ FaultAt w3 fp 8 ∧ ∃ O', SysAt w3 O' pw (POff n) nv ⟨m, [], 0⟩ ∧ Ext w O w3 O') := fun w2 w3 O2 s1 s2 s3 s4 =>
    ⟨_, rfl, s3, O2, s1.below s4, s2.trans (Below.ext s4)⟩
  by_cases hm : (R : Int) - (r0 : Int) < (L : Int)
  · have hqe : (R : Int) - (r0 : Int) = (q : Int) := by omega
    clear hq
    go_upto_region 5 with fail
    go_region_held3 (fun W => W.cell? ⟨lb, 0, none⟩ = some (.pointer (some ⟨nv, 0, none⟩))) (first | exact k0 | exact k2 _ | exact j0) (first
      | (go_at_call 47; refine Hw1.out.mono ?_; rintro e w3 ⟨rfl, O3, s3, x3⟩; have j0 := Hlc.out w3 O3 x3; have Hx3 := Lib.hid (And.intro s3 x3); clear s3 x3))
    all_goals
      clear k0 k1 k2 j0 Hw1 hsl1
      go_wp2_with fail
      refine (wrap_bad _ 8 _ (by decide)).mono ?_
      rintro e w4 ⟨rfl, q1, q2⟩
      have Hq4 := Lib.hid (Hfin.out _ w4 _ Hx3.out.1 Hx3.out.2 q1 q2)
      clear q1 q2
      go_wp2_with fail
      go_ret
      exact Hq4.out
  · obtain rfl : q = L := by omega
    have hm' : (q : Int) ≤ (R : Int) - (r0 : Int) := by omega
    clear hq hm
    go_upto_region 5 with fail
    go_region_held3 (fun W => W.cell? ⟨lb, 0, none⟩ = some (.pointer (some ⟨nv, 0, none⟩))) (first | exact k0 | exact k2 _ | exact j0) (first
      | (go_at_call 47; refine Hw1.out.mono ?_; rintro e w3 ⟨rfl, O3, s3, x3⟩; have j0 := Hlc.out w3 O3 x3; have Hx3 := Lib.hid (And.intro s3 x3); clear s3 x3))
    all_goals
      clear k0 k1 k2 j0 Hw1 hsl1
      go_wp2_with fail
      refine (wrap_bad _ 8 _ (by decide)).mono ?_
      rintro e w4 ⟨rfl, q1, q2⟩
      have Hq4 := Lib.hid (Hfin.out _ w4 _ Hx3.out.1 Hx3.out.2 q1 q2)
      clear q1 q2
      go_wp2_with fail
      go_ret
      exact Hq4.out
end
end Go.Proofs.YtkjogkmdldplgaaDoor
