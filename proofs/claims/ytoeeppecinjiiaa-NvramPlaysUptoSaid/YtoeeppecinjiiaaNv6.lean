/-
  The power with one device on it: it goes; a write is begun; it is put on.
-/
import Derived.Test.YtoeeppecinjiiaaNv5
import Derived.Deep.RegionWith
namespace Go.Proofs.Ytoeeppecinjiiaa
open Go.RowKit

def writeOk (P : Pow) : Bool := !P.off && !(P.left == 1)
def writeP (P : Pow) : Pow := if P.off then P else if P.left = 1 then { P with off := true, left := 0, picks := [] } else { P with left := P.left - 1, writes := P.writes + 1 }
def writeD (P : Pow) (D : Dev) : Dev := if P.off then D else if P.left = 1 then D.cut P.picks else D

section
variable {w w' : World} {O : Nat → Option Tag} {pw nv : Nat} {P P' : Pow} {D : Dev}
/-- the numbers of the power are another ones -/
theorem SysAt.pow_set (h : SysAt w O pw P nv D) (hk : Kept (fun b => b ≠ pw) w w')
    (hc : ∀ dv x, Cells w pw 58 [dv, .bool P.off, .int .i64 (P.writes : Int), .int .i64 (P.left : Int), x] → Cells w' pw 58 [dv, .bool P'.off, .int .i64 (P'.writes : Int), .int .i64 (P'.left : Int), x]) (hp : P'.picks = P.picks) :
    SysAt w' O pw P' nv D ∧ Ext w O w' O := by
  obtain ⟨dv, A, c, h1, h2, h3, h4, h5, h6, h7, h8⟩ := h.pow
  have ht : ∀ b t, O b = some t → t ≠ .pw → b ≠ pw := fun b t hb ht e => ht (by rw [e, h2] at hb; cases hb; rfl)
  have ha : Agree (fun t => t ≠ .pw) w O w' O := hk.agree fun b t hb n => ht b t hb n
  refine ⟨⟨fun b hb => Nat.lt_of_lt_of_le (h.fresh b hb) hk.size, h.dev.keep h.fresh hk.size ha (by intro e; cases e) (by intro e; cases e) (by intro e; cases e) (by intro e; cases e), h.ok, ?_⟩, hk.mono (fun b _ hb e => by rw [e, h2] at hb; cases hb), fun _ _ => rfl⟩
  rw [← hp] at h1 h5 h7 h8
  exact ⟨dv, A, c, hc _ _ h1, h2, h3.move fun g hg => hk.block g (h3.ge g hg).2 (ht g _ (h4 g hg) (by intro e; cases e)), h4, (h5.keptN hk (fun _ ad he => ht _ _ (h6 ad he) (by intro e; cases e)) (Nat.le_refl _)).wide hk.size, h6, h7, h8⟩
/-- the power has no picks any more -/
theorem SysAt.pow_off (h : SysAt w O pw P nv D) (hk : Kept (fun b => b ≠ pw) w w')
    (hc : ∀ dv x, Cells w pw 58 [dv, .bool P.off, .int .i64 (P.writes : Int), .int .i64 (P.left : Int), x] → Cells w' pw 58 [dv, .bool true, .int .i64 (P.writes : Int), .int .i64 0, .slice none 0 0]) :
    SysAt w' O pw { P with off := true, left := 0, picks := [] } nv D ∧ Ext w O w' O := by
  obtain ⟨dv, A, c, h1, h2, h3, h4, h5, h6, h7, h8⟩ := h.pow
  have ht : ∀ b t, O b = some t → t ≠ .pw → b ≠ pw := fun b t hb ht e => ht (by rw [e, h2] at hb; cases hb; rfl)
  have ha : Agree (fun t => t ≠ .pw) w O w' O := hk.agree fun b t hb n => ht b t hb n
  exact ⟨⟨fun b hb => Nat.lt_of_lt_of_le (h.fresh b hb) hk.size, h.dev.keep h.fresh hk.size ha (by intro e; cases e) (by intro e; cases e) (by intro e; cases e) (by intro e; cases e), h.ok, dv, none, 0, hc _ _ h1, h2, h3.move fun g hg => hk.block g (h3.ge g hg).2 (ht g _ (h4 g hg) (by intro e; cases e)), h4, RI.nil _ _ _, (fun ad he => by cases he), Nat.le_refl _, Nat.zero_le _⟩, hk.mono (fun b _ hb e => by rw [e, h2] at hb; cases hb), fun _ _ => rfl⟩
end

set_option maxRecDepth 20000 in
theorem spared_any (v : Value) (w : World) : Calls Try.prog 35 #[.iface 27 v] w fun e w' => e = .returned (.bool false) ∧ w = w' := by
  have hta : ∀ W : World, (Instr.typeAssert (.iface 27 v) 71 73 true).run Try.prog W = .ok (.tuple #[.pointer none, .bool false]) W := by
    intro W
    simp [Instr.typeAssert, run_underlying Try.underlying73]
  go_enter Try.func35, Try.ntmps35
  go_wp2_with fail
  go_ret
  exact ⟨rfl, rfl⟩
theorem nil_ahead_cut (a : Addr) (w : World) : (nilAhead 197 27 (.pointer (some a)) "Cut").run Try.prog w = .ok (some false) w := by kernel_rfl
theorem method_cut (a : Addr) (w : World) : (method 197 27 (.pointer (some a)) "Cut").run Try.prog w = .ok (16, .pointer (some a)) w := by kernel_rfl
set_option maxRecDepth 20000 in
set_option maxHeartbeats 2000000 in
theorem fail_any (pw nv : Nat) (P : Pow) (D : Dev) (O : Nat → Option Tag) (w : World) (h : SysAt w O pw P nv D) (hpd : D.pending ≤ 1099511627776) :
    Calls Try.prog 33 #[.pointer (some ⟨pw, 0, none⟩)] w (SysPost w O pw { P with off := true, left := 0, picks := [] } nv (D.cut P.picks) (.tuple #[])) := by
  obtain ⟨dv, A, c, h1, h2, h3, h4, h5, h6, h7, h8⟩ := h.pow
  obtain ⟨Ad, cd, rfl, hcd, _, hrd⟩ := h3.rd
  obtain ⟨db, rfl, _, hdv⟩ := hrd 0 (devV nv) rfl
  have c0 := h1.cell (i := 0) rfl
  have c1 := h1.cell (i := 1) rfl
  have c3 := h1.cell (i := 3) rfl
  have c4 := h1.cell (i := 4) rfl
  have f1 := h1.frozen 1
  have f3 := h1.frozen 3
  have f4 := h1.frozen 4
  obtain ⟨w1, hw1⟩ : ∃ w1, w1 = ((w.setCell ⟨pw, 1, none⟩ (.bool true)).setCell ⟨pw, 3, none⟩ (.int .i64 0)).setCell ⟨pw, 4, none⟩ (.slice none 0 0) := ⟨_, rfl⟩
  have k2 : Kept (fun b => b ≠ pw) w w1 := by
    rw [hw1]
    exact (((Kept.refl _ w).setCell (fun h => h rfl) _).setCell (fun h => h rfl) _).setCell (fun h => h rfl) _
  obtain ⟨hs1, he1⟩ := h.pow_off k2 (fun dv x hc => by rw [hw1]; exact ((hc.set 1 (.bool true)).set 3 (.int .i64 0)).set 4 (.slice none 0 0))
  have hdbne : db ≠ pw := fun e => by have := h4 db rfl; rw [e, h2] at this; cases this
  have d0 : w1.cell? ⟨pw, 0, none⟩ = some (.slice (some ⟨db, 0, none⟩) 1 cd) := by
    rw [hw1]
    exact (((h1.set 1 (.bool true)).set 3 (.int .i64 0)).set 4 (.slice none 0 0)).cell (i := 0) rfl
  have d1 : w1.cell? ⟨db, 0, none⟩ = some (.iface 27 (.pointer (some ⟨nv, 0, none⟩))) := (World.cell?_of_block (w := w) (k2.block db (cell_lt hdv) hdbne)).trans hdv
  have hri : RI w1 w1.heap.size A P.picks := (h5.keptN k2 (fun _ ad he e => by have := h6 ad he; rw [e, h2] at this; cases this) (Nat.le_refl _)).wide k2.size
  have Hclone : Hid (Calls Try.prog 30 #[.slice A P.picks.length c] w1.drew fun e w' => ∃ v, e = .returned v ∧ OwnV w' w1.heap.size 3 v (P.picks.map (Value.int .i64)) ∧ Below w1.heap.size w1 w') := by
    have q2 := cloneInts_any A c P.picks w1.drew w1.heap.size hri (Nat.le_refl _) h8
    exact q2.mono fun e w' ⟨v, he, ho, hb⟩ => ⟨v, he, ho, ⟨hb.os, hb.tape, hb.output, hb.size, hb.block⟩⟩
  have Hcut : Hid (∀ v w2, OwnV w2 w1.heap.size 3 v (P.picks.map (Value.int .i64)) → Below w1.heap.size w1 w2 → ∃ A2 c2, v = .slice A2 P.picks.length c2 ∧
      Calls Try.prog 16 #[.pointer (some ⟨nv, 0, none⟩), .slice A2 P.picks.length c2] w2 (SysPost w O pw { P with off := true, left := 0, picks := [] } nv (D.cut P.picks) (.tuple #[]))) := by
    intro v w2 hv hb
    obtain ⟨A2, c2, e, hc2, hri2⟩ := RI.of_own hv
    have hs2 := hs1.kept ((Kept.refl _ w1).below hb)
    refine ⟨A2, c2, e, (cut_any pw nv _ D O A2 c2 P.picks w2 hs2 hri2 (fun _ ad hA2 hO => ?_) hpd (by omega)).mono fun e w' ⟨O', he, q1, q2⟩ => ⟨O', he, q1, ?_⟩⟩
    · have q := (hv.ge ad.block (by rw [e, hA2]; rfl)).1
      have := hs1.fresh ad.block (by rw [hO]; simp)
      omega
    · exact (he1.trans ⟨(Kept.refl _ w1).below hb, fun _ _ => rfl⟩).trans q2
  have Hsp := fun W => Lib.hid (spared_any (.pointer (some ⟨nv, 0, none⟩)) W)
  have hna := fun W => nil_ahead_cut ⟨nv, 0, none⟩ W
  have hme := fun W => method_cut ⟨nv, 0, none⟩ W
  clear h h1 h2 h3 h4 h5 h6 h7 h8 hrd hcd hdv hpd hri hdbne
  go_enter Try.func33, Try.ntmps33
  go_upto_region 2 with fail
  have hw1' : ((w.setCell ⟨pw, 1, none⟩ (.bool true)).setCell ⟨pw, 3, none⟩ (.int .i64 0)).setCell ⟨pw, 4, none⟩ (.slice none 0 0) = w1 := hw1.symm
  rw [hw1']
  clear hw1 hw1' c0 c1 c3 c4 f1 f3 f4 k2 hs1 he1
  go_wp2_with fail
  go_loopw [23] (fun iv wr => (iv = .int .i64 0 ∧ w1 = wr) ∨ (iv = .int .i64 1 ∧ Hid (SysPost w O pw { P with off := true, left := 0, picks := [] } nv (D.cut P.picks) (.tuple #[]) (.returned (.tuple #[])) wr))) (fun iv _ => 1 - (intOf iv).toNat)
  case atStart => exact .inl ⟨rfl, rfl⟩
  case round =>
    rcases hrel with ⟨rfl, rfl⟩ | ⟨rfl, hrel⟩
    · have Hs := Hsp w1
      go_upto_region 6 with (go_at_call 35; refine Hs.out.mono ?_; rintro e w2 ⟨rfl, rfl⟩)
      go_region_with (first
        | (go_at_call 30; refine Hclone.out.mono ?_; rintro e w2 ⟨v, rfl, hv, hb2⟩; obtain ⟨A2, c2, rfl, hcall⟩ := Hcut.out v w2 hv hb2; have Hcall := Lib.hid hcall; clear hv hb2 hcall)
        | (go_at_call 16; refine Hcall.out.mono ?_; rintro e w3 ⟨O3, rfl, q1, q2⟩; have Hq : Hid (SysPost w O pw { P with off := true, left := 0, picks := [] } nv (D.cut P.picks) (.tuple #[]) (.returned (.tuple #[])) w3) := ⟨O3, rfl, q1, q2⟩; clear q1 q2))
      all_goals
        go_wp2_with fail
        go_roundw
        case rel => exact .inr ⟨rfl, Hq.out⟩
        case measure => first | (simp [intOf]; done) | (simp [intOf]; omega)
    · go_wp2_with fail
      go_end0
      exact hrel.out
end Go.Proofs.Ytoeeppecinjiiaa
