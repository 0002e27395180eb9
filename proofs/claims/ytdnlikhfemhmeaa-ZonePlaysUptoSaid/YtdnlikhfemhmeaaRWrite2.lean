/-
  The second saying's write, walked.
-/
import Derived.Test.YtdnlikhfemhmeaaRWrite1
namespace Go.Proofs.Ytdnlikhfemhmeaa
open Go.RowKit

def RWritePost (w : World) (O : Nat → Option Tag) (pw : Nat) (P : Pow) (ds : List (Nat × Drv)) (w' : World) : Prop :=
  ∃ O', RSysAt w' O' pw (writeP P) (writeD P ds) ∧ Ext w O w' O' ∧ (writeOk P = true → O' = O ∧ Kept (fun b => b ≠ pw) w w')

set_option maxRecDepth 20000 in
set_option maxHeartbeats 2000000 in
theorem rfail_any (pw : Nat) (P : Pow) (ds : List (Nat × Drv)) (O : Nat → Option Tag) (w : World) (h : RSysAt w O pw P ds) (hn : ds.length ≤ 1048576) (hoff : P.off = false) (h1l : P.left = 1) :
    Calls Try.prog 54 #[.pointer (some ⟨pw, 0, none⟩)] w fun e w' => e = .returned (.bool (writeOk P)) ∧ RWritePost w O pw P ds w' := by
  have e1 : writeOk P = false := by unfold writeOk; rw [hoff, h1l]; rfl
  have e2 : writeP P = { P with off := true, left := 0, picks := [] } := by unfold writeP; rw [hoff, if_neg (by decide), if_pos h1l]
  have e3 : writeD P ds = ds.map (fun x => (x.1, x.2.cut P.picks)) := by unfold writeD; rw [hoff, if_neg (by decide), if_pos h1l]
  obtain ⟨dv, A, n, c, h1, h2, h3, h4, h5⟩ := h.pow
  obtain ⟨hnp, j5, h6, h7, h8⟩ := h5 (by omega)
  clear h5
  subst hnp
  obtain ⟨Ad, cd, rfl, hcd, _, hrd⟩ := h3.rd
  rw [List.length_map, List.length_map] at h1 h3 h4 hcd
  have c0 := h1.cell (i := 0) rfl
  have c1 := h1.cell (i := 1) rfl
  have f0 := h1.frozen 0
  have f1 := h1.frozen 1
  rw [hoff] at c0
  rw [h1l] at c1
  have c1' : w.cell? ⟨pw, 1, none⟩ = some (.int .i64 1) := c1
  rw [e1]
  obtain ⟨w1, hw1⟩ : ∃ w1, w1 = (w.setCell ⟨pw, 1, none⟩ (.int .i64 0)).setCell ⟨pw, 0, none⟩ (.bool true) := ⟨_, rfl⟩
  have k1 : Cells w1 pw 32 [.bool true, .int .i64 0, .slice A P.picks.length c, .int .i64 (P.writes : Int), .slice Ad ds.length cd] := by
    rw [hw1]
    exact (h1.set 1 (.int .i64 0)).set 0 (.bool true)
  have k2 : Kept (fun b => b ≠ pw) w w1 := by
    rw [hw1]
    exact ((Kept.refl _ w).setCell (fun h => h rfl) _).setCell (fun h => h rfl) _
  have hpwt : ∀ b t, O b = some t → t ≠ .pw → b ≠ pw := fun b t hb ht e => ht (by rw [e, h2] at hb; cases hb; rfl)
  have Fin : Hid (∀ wr, RFailRel w1 O pw P.picks ds ds.length wr → RWritePost w O pw P ds wr) := by
    intro wr hrel
    obtain ⟨O', r1, r2⟩ := RFailRel.fin (P' := { P with off := true, left := 0, picks := [] }) h k2 (fun dv x hc => by rw [hw1]; exact (hc.set 1 (.int .i64 0)).set 0 (.bool true)) rfl hrel
    refine ⟨O', ?_, r2, fun hh => by rw [e1] at hh; cases hh⟩
    rw [e2, e3]
    exact r1
  have Hdev1 : Hid (OwnV w1 0 40 (.slice Ad ds.length cd) ((ds.map (·.1)).map refV)) := h3.move fun g hg => k2.block g (h3.ge g hg).2 (hpwt g _ (h4 g hg) (by intro h; cases h))
  have Hri1 : Hid (RI w1 w.heap.size A P.picks) := j5.kept k2 (fun ad he => hpwt _ _ (h8 ad he) (by intro h; cases h)) (Nat.le_refl _)
  have Hst : Hid (RFailRel w1 O pw P.picks ds 0 w1) := by
    refine ⟨O, fun _ _ => rfl, Kept.refl _ _, fun b hb => Nat.lt_of_lt_of_le (h.fresh b hb) k2.size, fun b t hb ht => ?_, fun i d D hi => ?_⟩
    · have := h.fresh b (by rw [ht]; simp)
      have := k2.size
      omega
    · have e : cutFirst 0 P.picks i D = D := by unfold cutFirst; rw [if_neg (by omega)]
      rw [e]
      exact (h.drv i d D hi).1.kept k2 fun b t hb ht => hpwt b t hb (by intro e; subst e; cases ht)
  have Hok : Hid (∀ (i : Nat) d D, ds[i]? = some (d, D) → D.Ok) := fun i d D hi => (h.drv i d D hi).2
  have Hfresh := Lib.hid h.fresh
  have Hsz1 : Hid (w.heap.size ≤ w1.heap.size) := k2.size
  have Hpl := Lib.hid h7
  have Hpc := Lib.hid h6
  have Hdevt : Hid (∀ g, (Value.slice Ad ds.length cd).ownBlock = some g → O g = some .dev) := h4
  have HA := Lib.hid h8
  have Hpw := Lib.hid h2
  have Hk1 := Lib.hid k1
  go_enter Try.func54, Try.ntmps54
  have hn' : (ds.length : Int) ≤ 1048576 := by omega
  have kc4 := k1.cell (i := 4) rfl
  clear h h1 h2 h3 h4 j5 h6 h7 h8 hrd hcd k1 k2 hpwt e1 e2 e3 hoff h1l c1
  go_wp2_with fail
  rw [← hw1]
  clear hw1 c0 c1' f0 f1
  go_loopw [3] (fun iv wr => ∃ k : Nat, iv = .int .i64 (k : Int) ∧ k ≤ ds.length ∧ Hid (RFailRel w1 O pw P.picks ds k wr)) (fun iv _ => ds.length - (intOf iv).toNat)
  case atStart => exact ⟨0, rfl, Nat.zero_le _, Hst.out⟩
  case round =>
    obtain ⟨k, rfl, hk, hrel⟩ := hrel
    obtain ⟨O', q1, q2, q3, q4, q5⟩ := hrel.out
    have hpwk : wr.heap[pw]? = w1.heap[pw]? := q2.block pw Hk1.out.lt (fun t ht => by rw [Hpw.out] at ht; cases ht; rfl)
    have k9 := Hk1.out.move hpwk
    have d4 := k9.cell (i := 4) rfl
    have d2 := k9.cell (i := 2) rfl
    clear kc4
    by_cases hlt : k < ds.length
    case neg =>
      obtain rfl : k = ds.length := by omega
      have Hf := Lib.hid (Fin.out wr hrel.out)
      clear hlt hk hrel q1 q2 q3 q4 q5 k9 hpwk
      go_wp2_with fail
      go_ret
      exact ⟨rfl, Hf.out⟩
    have hk' : (k : Int) < (ds.length : Int) := by omega
    obtain ⟨⟨d, D⟩, hi⟩ : ∃ x, ds[k]? = some x := ⟨ds[k], List.getElem?_eq_getElem hlt⟩
    have hdk := q5 k d D hi
    have ecut : cutFirst k P.picks k D = D := by unfold cutFirst; rw [if_neg (by omega)]
    rw [ecut] at hdk
    have hdv : ∃ b, Ad = some ⟨b, 0, none⟩ ∧ b < w1.heap.size ∧ O b = some .dev ∧ wr.cell? ⟨b, k, none⟩ = some (.pointer (some ⟨d, 0, none⟩)) := by
      have r1 : OwnV wr 0 40 (.slice Ad ds.length cd) ((ds.map (·.1)).map refV) := Hdev1.out.move fun g hg => q2.block g (Hdev1.out.ge g hg).2 (fun t ht => by rw [Hdevt.out g hg] at ht; cases ht; rfl)
      obtain ⟨A', c', e, _, _, r2⟩ := r1.rd
      have eA : Ad = A' := by injection e
      subst eA
      obtain ⟨b, e2, _, r3⟩ := r2 k (refV d) (by simp [hi])
      subst e2
      exact ⟨b, rfl, (Hdev1.out.ge b rfl).2, Hdevt.out b rfl, r3⟩
    obtain ⟨b, rfl, hbl, hbt, hdv⟩ := hdv
    have Hcut : Hid (Calls Try.prog 36 #[.pointer (some ⟨d, 0, none⟩), .slice A P.picks.length c] wr.drew fun e w' => e = .returned (.tuple #[]) ∧ RCutDone wr O' k pw d D P.picks w') := by
      have r1 : RI wr w.heap.size A P.picks := Hri1.out.kept q2 (fun ad he t ht => by rw [HA.out ad he] at ht; cases ht; rfl) Hsz1.out
      have r2 : RI wr.drew wr.drew.heap.size A P.picks := r1.wide (Nat.le_trans Hsz1.out q2.size)
      refine (rcut_any k pw d A c P.picks D O' wr.drew (Hok.out k d D hi) (hdk.drewN 1) q3 r2 (fun _ ad he e => ?_) Hpc.out Hpl.out).mono fun e w' ⟨he, hd⟩ => ⟨he, ?_⟩
      · rw [q1 ad.block (Nat.lt_of_lt_of_le (Hfresh.out _ (by rw [HA.out ad he]; simp)) Hsz1.out), HA.out ad he] at e
        cases e
      · obtain ⟨O2, s1, s2, s3⟩ := hd
        exact ⟨O2, s1, ⟨s2.os, s2.tape, s2.output, s2.size, s2.block⟩, s3⟩
    have Hnext : Hid (∀ w3, RCutDone wr O' k pw d D P.picks w3 → RFailRel w1 O pw P.picks ds (k + 1) w3 ∧ w3.cell? ⟨pw, 4, none⟩ = some (.slice (some ⟨b, 0, none⟩) ds.length cd) ∧ w3.cell? ⟨b, k, none⟩ = some (.pointer (some ⟨d, 0, none⟩)) ∧ w3.cell? ⟨pw, 2, none⟩ = some (.slice A P.picks.length c)) := by
      intro w3 hd
      refine ⟨RFailRel.next q1 q2 q4 q5 hi hd, ?_⟩
      obtain ⟨O2, s1, s2, s3⟩ := hd
      have bp : w3.heap[pw]? = wr.heap[pw]? := s2.block pw (Nat.lt_of_lt_of_le Hk1.out.lt q2.size) (fun e => by rw [q1 pw Hk1.out.lt, Hpw.out] at e; cases e)
      have bb : w3.heap[b]? = wr.heap[b]? := s2.block b (Nat.lt_of_lt_of_le hbl q2.size) (fun e => by rw [q1 b hbl, hbt] at e; cases e)
      exact ⟨(World.cell?_of_block (w := wr) bp).trans d4, (World.cell?_of_block (w := wr) bb).trans hdv, (World.cell?_of_block (w := wr) bp).trans d2⟩
    have Hd4 := Lib.hid d4
    have Hd2 := Lib.hid d2
    have Hdv := Lib.hid hdv
    generalize ds.length = N at *
    clear hdk ecut hi hrel q1 q2 q3 q4 q5 k9 hpwk hbl hbt
    go_wp2_with fail
    go_region_held3 (fun W => W.cell? ⟨pw, 4, none⟩ = some (.slice (some ⟨b, 0, none⟩) N cd) ∧ W.cell? ⟨b, k, none⟩ = some (.pointer (some ⟨d, 0, none⟩)) ∧ W.cell? ⟨pw, 2, none⟩ = some (.slice A P.picks.length c))
      (first | exact hS3 | exact ⟨Hd4.out, Hdv.out, Hd2.out⟩)
      (first
        | (go_at_call 36; refine Hcut.out.mono ?_; rintro e w3 ⟨rfl, hdone⟩; obtain ⟨hnx, hS3⟩ := Hnext.out w3 hdone; have Hnx := Lib.hid hnx; clear hdone hnx))
    all_goals
      go_wp2_with fail
      go_roundw
      case rel => exact ⟨k + 1, by go_num, by omega, Hnx.out⟩
      case measure => simp [intOf]; omega
end Go.Proofs.Ytdnlikhfemhmeaa
