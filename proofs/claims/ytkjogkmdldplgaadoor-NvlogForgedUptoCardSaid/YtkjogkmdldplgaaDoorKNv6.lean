/-
  The power with one device on it: it goes; a write is begun; it is put on.
-/
import Derived.Test.YtkjogkmdldplgaaDoorKNv3
import Derived.Deep.RegionWith
namespace Go.Proofs.YtkjogkmdldplgaaDoor
open Go.RowKit

def writeOk (P : Pow) : Bool := !P.off && !(P.left == 1)
def writeP (P : Pow) : Pow := if P.off then P else if P.left = 1 then { P with off := true, left := 0, picks := [] } else { P with left := P.left - 1, writes := P.writes + 1 }
def writeD (P : Pow) (D : Dev) : Dev := if P.off then D else if P.left = 1 then D.cut P.picks else D

section
variable {w w' : World} {O : Nat → Option Tag} {pw nv : Nat} {P P' : Pow} {D : Dev}
/-- the numbers of the power are another ones -/
theorem SysAt.pow_set (h : SysAt w O pw P nv D) (hk : Kept (fun b => b ≠ pw) w w')
    (hc : ∀ dv x, Cells w pw 59 [dv, .bool P.off, .int .i64 (P.writes : Int), .int .i64 (P.left : Int), x] → Cells w' pw 59 [dv, .bool P'.off, .int .i64 (P'.writes : Int), .int .i64 (P'.left : Int), x]) (hp : P'.picks = P.picks) :
    SysAt w' O pw P' nv D ∧ Ext w O w' O := by
  obtain ⟨dv, A, c, h1, h2, h3, h4, h5, h6, h7, h8⟩ := h.pow
  have ht : ∀ b t, O b = some t → t ≠ .pw → b ≠ pw := fun b t hb ht e => ht (by rw [e, h2] at hb; cases hb; rfl)
  have ha : Agree (fun t => t ≠ .pw) w O w' O := hk.agree fun b t hb n => ht b t hb n
  refine ⟨⟨fun b hb => Nat.lt_of_lt_of_le (h.fresh b hb) hk.size, h.dev.keep h.fresh hk.size ha (by intro e; cases e) (by intro e; cases e) (by intro e; cases e) (by intro e; cases e), h.ok, ?_⟩, hk.mono (fun b _ hb e => by rw [e, h2] at hb; cases hb), fun _ _ => rfl⟩
  rw [← hp] at h1 h5 h7 h8
  exact ⟨dv, A, c, hc _ _ h1, h2, h3.move fun g hg => hk.block g (h3.ge g hg).2 (ht g _ (h4 g hg) (by intro e; cases e)), h4, (h5.keptN hk (fun _ ad he => ht _ _ (h6 ad he) (by intro e; cases e)) (Nat.le_refl _)).wide hk.size, h6, h7, h8⟩
/-- the power has no picks any more -/
theorem SysAt.pow_off (h : SysAt w O pw P nv D) (hk : Kept (fun b => b ≠ pw) w w')
    (hc : ∀ dv x, Cells w pw 59 [dv, .bool P.off, .int .i64 (P.writes : Int), .int .i64 (P.left : Int), x] → Cells w' pw 59 [dv, .bool true, .int .i64 (P.writes : Int), .int .i64 0, .slice none 0 0]) :
    SysAt w' O pw { P with off := true, left := 0, picks := [] } nv D ∧ Ext w O w' O := by
  obtain ⟨dv, A, c, h1, h2, h3, h4, h5, h6, h7, h8⟩ := h.pow
  have ht : ∀ b t, O b = some t → t ≠ .pw → b ≠ pw := fun b t hb ht e => ht (by rw [e, h2] at hb; cases hb; rfl)
  have ha : Agree (fun t => t ≠ .pw) w O w' O := hk.agree fun b t hb n => ht b t hb n
  exact ⟨⟨fun b hb => Nat.lt_of_lt_of_le (h.fresh b hb) hk.size, h.dev.keep h.fresh hk.size ha (by intro e; cases e) (by intro e; cases e) (by intro e; cases e) (by intro e; cases e), h.ok, dv, none, 0, hc _ _ h1, h2, h3.move fun g hg => hk.block g (h3.ge g hg).2 (ht g _ (h4 g hg) (by intro e; cases e)), h4, RI.nil _ _ _, (fun ad he => by cases he), Nat.le_refl _, Nat.zero_le _⟩, hk.mono (fun b _ hb e => by rw [e, h2] at hb; cases hb), fun _ _ => rfl⟩
end

set_option maxRecDepth 20000 in
theorem spared_any (v : Value) (w : World) : Calls Tryd.prog 66 #[.iface 23 v] w fun e w' => e = .returned (.bool false) ∧ w = w' := by
  have hta : ∀ W : World, (Instr.typeAssert (.iface 23 v) 84 142 true).run Tryd.prog W = .ok (.tuple #[.pointer none, .bool false]) W := by
    intro W
    simp [Instr.typeAssert, run_underlying Tryd.underlying142]
  go_enter Tryd.func66, Tryd.ntmps66
  go_wp2_with fail
  go_ret
  exact ⟨rfl, rfl⟩
theorem nil_ahead_cut (a : Addr) (w : World) : (nilAhead 280 23 (.pointer (some a)) "Cut").run Tryd.prog w = .ok (some false) w := by kernel_rfl
theorem method_cut (a : Addr) (w : World) : (method 280 23 (.pointer (some a)) "Cut").run Tryd.prog w = .ok (85, .pointer (some a)) w := by kernel_rfl
set_option maxRecDepth 20000 in
set_option maxHeartbeats 2000000 in
theorem fail_any (pw nv : Nat) (P : Pow) (D : Dev) (O : Nat → Option Tag) (w : World) (h : SysAt w O pw P nv D) (hpd : D.pending ≤ 1099511627776) :
    Calls Tryd.prog 64 #[.pointer (some ⟨pw, 0, none⟩)] w (SysPost w O pw { P with off := true, left := 0, picks := [] } nv (D.cut P.picks) (.tuple #[])) := by
  obtain ⟨dv, A, c, h1, h2, h3, h4, h5, h6, h7, h8⟩ := h.pow
  obtain ⟨Ad, cd, rfl, hcd, _, hrd⟩ := h3.rd
  obtain ⟨db, rfl, _, hdv⟩ := hrd 0 (devV nv) rfl
  have c0 := h1.cell (i := 0) rfl
  have c1 := h1.cell (i := 1) rfl
  have c3 := h1.cell (i := 3) rfl
  have c4 := h1.cell (i := 4) rfl
  have f1 := h1.frozen 1
  have f3 := h1.frozen 3
  have f4 := h1.frozen 4
  obtain ⟨w1, hw1⟩ : ∃ w1, w1 = ((w.setCell ⟨pw, 1, none⟩ (.bool true)).setCell ⟨pw, 3, none⟩ (.int .i64 0)).setCell ⟨pw, 4, none⟩ (.slice none 0 0) := ⟨_, rfl⟩
  have k2 : Kept (fun b => b ≠ pw) w w1 := by
    rw [hw1]
    exact (((Kept.refl _ w).setCell (fun h => h rfl) _).setCell (fun h => h rfl) _).setCell (fun h => h rfl) _
  obtain ⟨hs1, he1⟩ := h.pow_off k2 (fun dv x hc => by rw [hw1]; exact ((hc.set 1 (.bool true)).set 3 (.int .i64 0)).set 4 (.slice none 0 0))
  have hdbne : db ≠ pw := fun e => by have := h4 db rfl; rw [e, h2] at this; cases this
  have d0 : w1.cell? ⟨pw, 0, none⟩ = some (.slice (some ⟨db, 0, none⟩) 1 cd) := by
    rw [hw1]
    exact (((h1.set 1 (.bool true)).set 3 (.int .i64 0)).set 4 (.slice none 0 0)).cell (i := 0) rfl
  have d1 : w1.cell? ⟨db, 0, none⟩ = some (.iface 23 (.pointer (some ⟨nv, 0, none⟩))) := (World.cell?_of_block (w := w) (k2.block db (cell_lt hdv) hdbne)).trans hdv
  have hri : RI w1 w1.heap.size A P.picks := (h5.keptN k2 (fun _ ad he e => by have := h6 ad he; rw [e, h2] at this; cases this) (Nat.le_refl _)).wide k2.size
  have Hclone : Hid (Calls Tryd.prog 35 #[.slice A P.picks.length c] w1.drew fun e w' => ∃ v, e = .returned v ∧ OwnV w' w1.heap.size 3 v (P.picks.map (Value.int .i64)) ∧ Below w1.heap.size w1 w') := by
    have q2 := cloneInts_any A c P.picks w1.drew w1.heap.size hri (Nat.le_refl _) h8
    exact q2.mono fun e w' ⟨v, he, ho, hb⟩ => ⟨v, he, ho, ⟨hb.os, hb.tape, hb.output, hb.size, hb.block⟩⟩
  have Hcut : Hid (∀ v w2, OwnV w2 w1.heap.size 3 v (P.picks.map (Value.int .i64)) → Below w1.heap.size w1 w2 → ∃ A2 c2, v = .slice A2 P.picks.length c2 ∧
      Calls Tryd.prog 85 #[.pointer (some ⟨nv, 0, none⟩), .slice A2 P.picks.length c2] w2 (SysPost w O pw { P with off := true, left := 0, picks := [] } nv (D.cut P.picks) (.tuple #[]))) := by
    intro v w2 hv hb
    obtain ⟨A2, c2, e, hc2, hri2⟩ := RI.of_own hv
    have hs2 := hs1.kept ((Kept.refl _ w1).below hb)
    refine ⟨A2, c2, e, (cut_any pw nv _ D O A2 c2 P.picks w2 hs2 hri2 (fun _ ad hA2 hO => ?_) hpd (by omega)).mono fun e w' ⟨O', he, q1, q2⟩ => ⟨O', he, q1, ?_⟩⟩
    · have q := (hv.ge ad.block (by rw [e, hA2]; rfl)).1
      have := hs1.fresh ad.block (by rw [hO]; simp)
      omega
    · exact (he1.trans ⟨(Kept.refl _ w1).below hb, fun _ _ => rfl⟩).trans q2
  have Hsp := fun W => Lib.hid (spared_any (.pointer (some ⟨nv, 0, none⟩)) W)
  have hna := fun W => nil_ahead_cut ⟨nv, 0, none⟩ W
  have hme := fun W => method_cut ⟨nv, 0, none⟩ W
  clear h h1 h2 h3 h4 h5 h6 h7 h8 hrd hcd hdv hpd hri hdbne
  go_enter Tryd.func64, Tryd.ntmps64
  go_upto_region 2 with fail
  have hw1' : ((w.setCell ⟨pw, 1, none⟩ (.bool true)).setCell ⟨pw, 3, none⟩ (.int .i64 0)).setCell ⟨pw, 4, none⟩ (.slice none 0 0) = w1 := hw1.symm
  rw [hw1']
  clear hw1 hw1' c0 c1 c3 c4 f1 f3 f4 k2 hs1 he1
  go_wp2_with fail
  go_loopw [23] (fun iv wr => (iv = .int .i64 0 ∧ w1 = wr) ∨ (iv = .int .i64 1 ∧ Hid (SysPost w O pw { P with off := true, left := 0, picks := [] } nv (D.cut P.picks) (.tuple #[]) (.returned (.tuple #[])) wr))) (fun iv _ => 1 - (intOf iv).toNat)
  case atStart => exact .inl ⟨rfl, rfl⟩
  case round =>
    rcases hrel with ⟨rfl, rfl⟩ | ⟨rfl, hrel⟩
    · have Hs := Hsp w1
      go_upto_region 6 with (go_at_call 66; refine Hs.out.mono ?_; rintro e w2 ⟨rfl, rfl⟩)
      go_region_with (first
        | (go_at_call 35; refine Hclone.out.mono ?_; rintro e w2 ⟨v, rfl, hv, hb2⟩; obtain ⟨A2, c2, rfl, hcall⟩ := Hcut.out v w2 hv hb2; have Hcall := Lib.hid hcall; clear hv hb2 hcall)
        | (go_at_call 85; refine Hcall.out.mono ?_; rintro e w3 ⟨O3, rfl, q1, q2⟩; have Hq : Hid (SysPost w O pw { P with off := true, left := 0, picks := [] } nv (D.cut P.picks) (.tuple #[]) (.returned (.tuple #[])) w3) := ⟨O3, rfl, q1, q2⟩; clear q1 q2))
      all_goals
        go_wp2_with fail
        go_roundw
        case rel => exact .inr ⟨rfl, Hq.out⟩
        case measure => first | (simp [intOf]; done) | (simp [intOf]; omega)
    · go_wp2_with fail
      go_end0
      exact hrel.out
end Go.Proofs.YtkjogkmdldplgaaDoor

/-
  A write is begun; the power is put on; all is made to outlast cuts.
-/
namespace Go.Proofs.YtkjogkmdldplgaaDoor
open Go.RowKit

set_option maxRecDepth 20000 in
set_option maxHeartbeats 1000000 in
theorem write_any (pw nv : Nat) (P : Pow) (D : Dev) (O : Nat → Option Tag) (w : World) (h : SysAt w O pw P nv D) (hpd : D.pending ≤ 1099511627776) (hw : P.writes ≤ 1099511627776) (hl : P.left ≤ 9223372036854775807) :
    Calls Tryd.prog 59 #[.pointer (some ⟨pw, 0, none⟩)] w fun e w' => e = .returned (.bool (writeOk P)) ∧ (∃ O', SysAt w' O' pw (writeP P) nv (writeD P D) ∧ Ext w O w' O') ∧ (writeOk P = true → SysAt w' O pw (writeP P) nv D ∧ Kept (fun b => b ≠ pw) w w') := by
  obtain ⟨dv, A, c, h1, h2, h3⟩ := h.pow
  have c1 := h1.cell (i := 1) rfl
  have c2 := h1.cell (i := 2) rfl
  have c3 := h1.cell (i := 3) rfl
  have f2 := h1.frozen 2
  have f3 := h1.frozen 3
  have Hset : Hid (∀ (l : Nat) (P' : Pow), P' = { P with left := l, writes := P.writes + 1 } → SysAt ((w.setCell ⟨pw, 3, none⟩ (.int .i64 (l : Int))).setCell ⟨pw, 2, none⟩ (.int .i64 ((P.writes : Int) + 1))) O pw P' nv D ∧
      Ext w O ((w.setCell ⟨pw, 3, none⟩ (.int .i64 (l : Int))).setCell ⟨pw, 2, none⟩ (.int .i64 ((P.writes : Int) + 1))) O ∧
      (true = true → Kept (fun b => b ≠ pw) w ((w.setCell ⟨pw, 3, none⟩ (.int .i64 (l : Int))).setCell ⟨pw, 2, none⟩ (.int .i64 ((P.writes : Int) + 1))))) := by
    rintro l P' rfl
    have hk : Kept (fun b => b ≠ pw) w ((w.setCell ⟨pw, 3, none⟩ (.int .i64 (l : Int))).setCell ⟨pw, 2, none⟩ (.int .i64 ((P.writes : Int) + 1))) := ((Kept.refl _ w).setCell (fun h => h rfl) _).setCell (fun h => h rfl) _
    suffices hh : SysAt _ O pw { P with left := l, writes := P.writes + 1 } nv D ∧ Ext w O _ O from ⟨hh.1, hh.2, fun _ => hk⟩
    refine h.pow_set hk (fun dv x hc => ?_) rfl
    exact (hc.set 3 (.int .i64 (l : Int))).set 2 (.int .i64 ((P.writes : Int) + 1))
  have Hfail := Lib.hid (fail_any pw nv P D O w h hpd)
  have Hh := Lib.hid h
  clear h h1 h2 h3
  have hw' : (P.writes : Int) ≤ 1099511627776 := by omega
  rcases hoff : P.off with _ | _
  case true =>
    rw [hoff] at c1
    have e1 : writeOk P = false := by unfold writeOk; rw [hoff]; rfl
    have Hr : Hid (SysAt w O pw (writeP P) nv (writeD P D) ∧ Ext w O w O) := by
      unfold writeP writeD
      rw [hoff]
      exact ⟨Hh.out, Ext.refl _ _⟩
    rw [e1]
    clear e1 Hset Hfail hoff
    go_enter Tryd.func59, Tryd.ntmps59
    go_wp2_with fail
    go_ret
    exact ⟨rfl, ⟨O, Hr.out.1, Hr.out.2⟩, (fun h => by cases h)⟩
  rw [hoff] at c1
  by_cases h1 : P.left = 1
  · have e1 : writeOk P = false := by unfold writeOk; rw [hoff, h1]; rfl
    have e2 : writeP P = { P with off := true, left := 0, picks := [] } := by unfold writeP; rw [hoff, if_neg (by decide), if_pos h1]
    have e3 : writeD P D = D.cut P.picks := by unfold writeD; rw [hoff, if_neg (by decide), if_pos h1]
    rw [h1] at c3
    have c3' : w.cell? ⟨pw, 3, none⟩ = some (.int .i64 1) := c3
    rw [e1, e2, e3]
    clear e1 e2 e3 Hset hoff c3 h1
    go_enter Tryd.func59, Tryd.ntmps59
    go_wp2_with (go_at_call 64; refine Hfail.out.mono ?_; rintro e w1 ⟨O1, rfl, hs, hx⟩; have Hs := Lib.hid hs; have Hx := Lib.hid hx; clear hs hx)
    go_ret
    exact ⟨rfl, ⟨O1, Hs.out, Hx.out⟩, (fun h => by cases h)⟩
  have e1 : writeOk P = true := by unfold writeOk; rw [hoff]; simp [h1]
  have e2 : writeP P = { P with left := P.left - 1, writes := P.writes + 1 } := by unfold writeP; rw [hoff, if_neg (by decide), if_neg h1]
  have e3 : writeD P D = D := by unfold writeD; rw [hoff, if_neg (by decide), if_neg h1]
  have Hr := Lib.hid (Hset.out (P.left - 1) _ rfl)
  rw [e1, e2, e3]
  have ht : (((P.left : Nat) : Int) == 1) = false := by simp; omega
  clear e1 e2 e3 Hset Hfail hoff
  by_cases h0 : P.left = 0
  · rw [h0] at c3
    have c3' : w.cell? ⟨pw, 3, none⟩ = some (.int .i64 0) := c3
    rw [h0] at Hr
    rw [h0]
    clear c3 h1 ht h0 hl
    go_enter Tryd.func59, Tryd.ntmps59
    go_wp2_with fail
    go_ret
    exact ⟨rfl, ⟨O, Hr.out.1, Hr.out.2.1⟩, Hr.out.1, Hr.out.2.2 trivial⟩
  · have e4 : ((P.left - 1 : Nat) : Int) = (P.left : Int) - 1 := by omega
    rw [e4] at Hr
    have hl' : (P.left : Int) ≤ 9223372036854775807 := by omega
    have h2' : (1 : Int) ≤ (P.left : Int) := by omega
    have h3' : (0 : Int) ≤ (P.left : Int) - 1 := by omega
    have hmx : max ((P.left : Int) - 1) 0 = (P.left : Int) - 1 := by omega
    clear e4 h0 h1 hl
    go_enter Tryd.func59, Tryd.ntmps59
    go_wp2_with fail
    go_ret
    exact ⟨rfl, ⟨O, Hr.out.1, Hr.out.2.1⟩, Hr.out.1, Hr.out.2.2 trivial⟩

section
variable {w : World} {O : Nat → Option Tag} {pw nv : Nat} {P : Pow} {D : Dev}
theorem sysOff (h : SysAt w O pw P nv D) : Calls Tryd.prog 32 #[.pointer (some ⟨pw, 0, none⟩)] w fun e w' => e = .returned (.bool P.off) ∧ w = w' := by
  obtain ⟨dv, A, c, h1, _⟩ := h.pow
  exact off_any pw P.off w (h1.cell rfl)
theorem sysSize (h : SysAt w O pw P nv D) : Calls Tryd.prog 36 #[.pointer (some ⟨nv, 0, none⟩)] w fun e w' => e = .returned (.int .i64 (D.mem.length : Int)) ∧ w = w' := by
  obtain ⟨bb, hb⟩ := h.cells.2.1
  exact size_any nv _ _ _ w hb
set_option maxRecDepth 20000 in
theorem sysOn (h : SysAt w O pw P nv D) : Calls Tryd.prog 16 #[.pointer (some ⟨pw, 0, none⟩)] w (SysPost w O pw { P with off := false } nv D (.tuple #[])) := by
  obtain ⟨q1, q2⟩ := h.pow_set (P' := { P with off := false }) ((Kept.refl _ w).setCell (p := ⟨pw, 1, none⟩) (fun h => h rfl) (.bool false)) (fun dv x hc => hc.set 1 (.bool false)) rfl
  have Hq : Hid (SysPost w O pw { P with off := false } nv D (.tuple #[]) (.returned (.tuple #[])) (w.setCell ⟨pw, 1, none⟩ (.bool false))) := ⟨O, rfl, q1, q2⟩
  obtain ⟨dv, A, c, h1, _⟩ := h.pow
  have c1 := h1.cell (i := 1) rfl
  have f1 := h1.frozen 1
  clear h h1 q1 q2
  go_enter Tryd.func16, Tryd.ntmps16
  go_wp2_with fail
  go_end0
  exact Hq.out
end

def perCode (P : Pow) : Nat := if writeOk P then 0 else 8
def perD (P : Pow) (D : Dev) : Dev := if writeOk P then D.settle else writeD P D
def perP (P : Pow) : Pow := writeP P
set_option maxRecDepth 20000 in
set_option maxHeartbeats 1000000 in
theorem persist_any (pw nv : Nat) (P : Pow) (D : Dev) (O : Nat → Option Tag) (w : World) (h : SysAt w O pw P nv D) (hpd : D.pending ≤ 1099511627776) (hw : P.writes ≤ 1099511627776) (hl : P.left ≤ 9223372036854775807) :
    Calls Tryd.prog 51 #[.pointer (some ⟨nv, 0, none⟩)] w (SysPost w O pw (perP P) nv (perD P D) (.int .i64 (perCode P : Nat))) := by
  have k0 := h.cells.1
  have Ho := Lib.hid (sysOff h)
  have Hw := Lib.hid (write_any pw nv P D O w h hpd hw hl)
  have Hh := Lib.hid h
  unfold perP
  rcases hoff : P.off with _ | _
  case true =>
    have e1 : perCode P = 8 := by unfold perCode writeOk; rw [hoff]; rfl
    have e2 : perD P D = D := by unfold perD writeOk writeD; rw [hoff]; rfl
    have e3 : writeP P = P := by unfold writeP; rw [hoff]; rfl
    have Hs : Hid (SysPost w O pw P nv D (.int .i64 8) (.returned (.int .i64 8)) w) := ⟨O, rfl, Hh.out, Ext.refl _ _⟩
    rw [e1, e2, e3]
    rw [hoff] at Ho
    have Hg : Hid (SysPost w O pw P nv D (.int .i64 ((8 : Nat) : Int)) = SysPost w O pw P nv D (.int .i64 8)) := rfl
    rw [Hg.out]
    clear h Hw e1 e2 e3 hoff hpd hw hl Hg
    go_enter Tryd.func51, Tryd.ntmps51
    go_wp2_with (go_at_call 32; refine Ho.out.mono ?_; rintro e w1 ⟨rfl, rfl⟩)
    go_ret
    exact Hs.out
  rw [hoff] at Ho
  by_cases hok : writeOk P = true
  · have e1 : perCode P = 0 := by unfold perCode; rw [if_pos hok]
    have e2 : perD P D = D.settle := by unfold perD; rw [if_pos hok]
    rw [e1, e2]
    rw [hok] at Hw
    have Hse : Hid (∀ w2, SysAt w2 O pw (writeP P) nv D → Kept (fun b => b ≠ pw) w w2 → Calls Tryd.prog 61 #[.pointer (some ⟨nv, 0, none⟩)] w2 fun e w' => e = .returned (.tuple #[]) ∧ SysPost w O pw (writeP P) nv D.settle (.int .i64 0) (.returned (.int .i64 0)) w') := by
      intro w2 q1 q2
      refine (settle_any pw nv (writeP P) D O w2 q1).mono fun e w' ⟨O', he, s1, s2⟩ => ⟨he, O', rfl, s1, Ext.trans ⟨q2.mono (fun b _ hb e => ?_), fun _ _ => rfl⟩ s2⟩
      obtain ⟨dv, A, c, _, h2, _⟩ := Hh.out.pow
      rw [e, h2] at hb
      cases hb
    have Hg : Hid (SysPost w O pw (writeP P) nv D.settle (.int .i64 ((0 : Nat) : Int)) = SysPost w O pw (writeP P) nv D.settle (.int .i64 0)) := rfl
    rw [Hg.out]
    clear h e1 e2 hoff hpd hw hl Hg hok
    go_enter Tryd.func51, Tryd.ntmps51
    go_wp2_with (first
      | (go_at_call 32; refine Ho.out.mono ?_; rintro e w1 ⟨rfl, rfl⟩)
      | (go_at_call 59; refine Hw.out.mono ?_; rintro e w2 ⟨rfl, _, q2⟩; obtain ⟨q3, q4⟩ := q2 (by trivial); have Hs2 := Lib.hid (Hse.out w2 q3 q4); clear q2 q3 q4)
      | (go_at_call 61; refine Hs2.out.mono ?_; rintro e w3 ⟨rfl, q5⟩; have Hq := Lib.hid q5; clear q5))
    go_ret
    exact Hq.out
  · have hok' : writeOk P = false := by simpa using hok
    have e1 : perCode P = 8 := by unfold perCode; rw [hok']; rfl
    have e2 : perD P D = writeD P D := by unfold perD; rw [hok']; rfl
    rw [e1, e2]
    rw [hok'] at Hw
    have Hg : Hid (SysPost w O pw (writeP P) nv (writeD P D) (.int .i64 ((8 : Nat) : Int)) = SysPost w O pw (writeP P) nv (writeD P D) (.int .i64 8)) := rfl
    rw [Hg.out]
    clear h e1 e2 hoff hpd hw hl Hg hok hok'
    go_enter Tryd.func51, Tryd.ntmps51
    go_wp2_with (first
      | (go_at_call 32; refine Ho.out.mono ?_; rintro e w1 ⟨rfl, rfl⟩)
      | (go_at_call 59; refine Hw.out.mono ?_; rintro e w2 ⟨rfl, ⟨O2, q1, q2⟩, _⟩; have Hq : Hid (SysPost w O pw (writeP P) nv (writeD P D) (.int .i64 8) (.returned (.int .i64 8)) w2) := ⟨O2, rfl, q1, q2⟩; clear q1 q2))
    go_ret
    exact Hq.out
end Go.Proofs.YtkjogkmdldplgaaDoor

/-
  A power, and a device that hangs on it, are made.
-/
namespace Go.Proofs.YtkjogkmdldplgaaDoor
open Go.RowKit

theorem info_dev : (Tryd.prog.info? 84).map (fun i => (i.zero, i.size, i.bytes)) = some (some .nilIface, 1, 16) := by kernel_rfl
def AttPost (w : World) (pw d : Nat) (dv : Value) (xs : List Value) (e : Ending) (w' : World) : Prop :=
  ∃ (dv' : Value) (W : World), e = .returned (.tuple #[]) ∧ w' = W.setCell ⟨pw, 0, none⟩ dv' ∧ OwnV W 0 84 dv' (xs ++ [devV d]) ∧ Kept (fun b => dv.ownBlock ≠ some b) w W ∧ (dv'.ownBlock = dv.ownBlock ∨ ∃ b, dv'.ownBlock = some b ∧ w.heap.size ≤ b)

theorem att_facts {w W9 : World} {pw d : Nat} {v v9 : Value} {xs : List Value} {ob : Obj} (hpw : pw < w.heap.size) (h0 : w.cell? ⟨pw, 0, none⟩ = some v) (f0 : w.frozen? ⟨pw, 0, none⟩ = false) (hne : v.ownBlock ≠ some pw)
    (hown9 : OwnV W9 0 84 v9 (xs ++ [devV d])) (hg9 : (w.alloc ob).grownBy W9 v.ownBlock) (hb9 : v9.ownBlock = v.ownBlock ∨ v9.ownBlock = some (w.alloc ob).heap.size) :
    (∃ g9 cap9, v9 = .slice (some ⟨g9, 0, none⟩) (xs.length + 1) cap9) ∧ W9.cell? ⟨pw, 0, none⟩ = some v ∧ W9.frozen? ⟨pw, 0, none⟩ = false ∧ AttPost w pw d v xs (.returned (.tuple #[])) (W9.setCell ⟨pw, 0, none⟩ v9) := by
  have hblk : W9.heap[pw]? = w.heap[pw]? := by
    rw [hg9.block pw (by simp; omega) (fun e => hne e.symm), Below.heap_alloc w _ pw hpw]
  refine ⟨?_, (World.cell?_of_block (w := w) hblk).trans h0, (World.frozen?_of_block (w := w) hblk).trans f0, v9, W9, rfl, rfl, hown9, ((Kept.refl _ w).alloc _).grown hg9 (fun g hg h => h hg), ?_⟩
  · rcases hown9.form with ⟨_, h⟩ | ⟨g9, cap9, cur9, h, _⟩
    · simp at h
    · exact ⟨g9, cap9, by rw [h]; simp⟩
  · rcases hb9 with h | h
    · exact .inl h
    · exact .inr ⟨_, h, by simp⟩
set_option maxRecDepth 20000 in
set_option maxHeartbeats 400000 in
theorem attach_any (pw d : Nat) (dv : Value) (xs : List Value) (w : World) (h0 : w.cell? ⟨pw, 0, none⟩ = some dv) (f0 : w.frozen? ⟨pw, 0, none⟩ = false) (hpw : pw < w.heap.size) (hdv : OwnV w 0 84 dv xs) (hne : dv.ownBlock ≠ some pw) (hx : xs.length ≤ 1048576) :
    Calls Tryd.prog 18 #[.pointer (some ⟨pw, 0, none⟩), .iface 23 (.pointer (some ⟨d, 0, none⟩))] w (AttPost w pw d dv xs) := by
  obtain ⟨A0, c0, rfl, _, _, _⟩ := hdv.rd
  have Hdv := Lib.hid hdv
  have Hne := Lib.hid hne
  have Hpw := Lib.hid hpw
  have Hx := Lib.hid hx
  have H0 := Lib.hid h0
  have F0 := Lib.hid f0
  clear hdv hne hpw hx
  go_enter Tryd.func18, Tryd.ntmps18
  go_wp2_with (at_builtin; go_must (refine app_one rfl (.tmp 8) (.tmp 10) 56 84 rfl Tryd.underlying56 .nilIface 16 info_dev rfl 0 _ xs rfl (Hdv.out.alloc _) ⟨w.heap.size, 0, none⟩ 1 (.iface 23 (.pointer (some ⟨d, 0, none⟩))) rfl (cell_new _ _ _) rfl (by have := Hx.out; omega) (by have := Hx.out; omega) (Nat.zero_le _) ?_); intro v9 W9 hown9 hg9 hb9; obtain ⟨⟨g9, cap9, rfl⟩, hc9, hf9, hpost⟩ := att_facts Hpw.out H0.out F0.out Hne.out hown9 hg9 hb9; have Hpost := Lib.hid hpost; clear hpost hown9 hg9 hb9)
  go_end0
  exact Hpost.out

def PowNew (w : World) (pw : Nat) : Prop := Cells w pw 59 [.slice none 0 0, .bool false, .int .i64 0, .int .i64 0, .slice none 0 0]
set_option maxRecDepth 20000 in
theorem newPower_any (w : World) : Calls Tryd.prog 7 #[] w fun e w' => e = .returned (.pointer (some ⟨w.heap.size, 0, none⟩)) ∧ PowNew w' w.heap.size ∧ Below w.heap.size w w' := by
  have Hs : Hid (PowNew (w.alloc (.cells #[.slice none 0 0, .bool false, .int .i64 0, .int .i64 0, .slice none 0 0] 59)) w.heap.size) := Cells.new w _ _
  go_enter Tryd.func7, Tryd.ntmps7
  go_wp2_with fail
  go_ret
  exact ⟨rfl, Hs.out, (Below.refl _ _).alloc (Nat.le_refl _) _⟩

set_option maxRecDepth 20000 in
/-- make([]byte, n) -/
theorem make_run (n : Nat) (hn : n ≤ 1099511627776) : ∃ cs : Array Value, Hid (cs = (bvs (List.replicate n 0)).toArray) ∧
    ∀ u : World, (Instr.makeSlice 35 (.int .i64 (n : Int)) (.int .i64 (n : Int))).run Tryd.prog u = .ok (.slice (some ⟨u.heap.size, 0, none⟩) n n) (u.alloc (.cells cs 5)) := by
  obtain ⟨i0, hi, hz0, hz1, hz2⟩ := info_parts info8
  refine ⟨_, rfl, fun u => ?_⟩
  have h := run_make (P := Tryd.prog) u 35 5 i0 (.int .u8 0) Tryd.underlying35 hi hz0 .i64 .i64 (n : Int) (n : Int) (by omega) (Int.le_refl _) (by rw [hz2]; omega) (by omega)
  rw [h]
  simp only [Int.toNat_natCast, hz1, Nat.mul_one]
  congr 3
  apply Array.toList_inj.1
  show (madeCells #[Value.int .u8 0] n).toList = _
  rw [toList_madeCells_one]
  simp [bvs, bv]
def Dev.new (n : Nat) : Dev := ⟨List.replicate n 0, [], 0⟩
theorem Dev.new_ok {n : Nat} (h1 : 64 ≤ n) (h2 : n ≤ 67108864) : (Dev.new n).Ok :=
  ⟨by show 64 ≤ (List.replicate n _).length; rw [List.length_replicate]; exact h1, by show (List.replicate n _).length ≤ _; rw [List.length_replicate]; exact h2, fun u hu => by simp [Dev.new] at hu, fun u hu => by simp [Dev.new] at hu, fun u hu => by simp [Dev.new] at hu, Nat.zero_le _⟩
def NewPost (w : World) (pw n : Nat) (e : Ending) (w' : World) : Prop :=
  ∃ (O : Nat → Option Tag) (nv : Nat), e = .returned (.tuple #[.pointer (some ⟨nv, 0, none⟩), .int .i64 0]) ∧ SysAt w' O pw Pow.new nv (Dev.new n) ∧ (∀ b, b < w.heap.size → b ≠ pw → O b = none) ∧ Kept (fun b => b ≠ pw) w w'
theorem new_facts {w w2 w' : World} {pw n : Nat} {e : Ending} (hp : PowNew w pw) (h1 : 64 ≤ n) (h2 : n ≤ 67108864)
    (hw2 : w2 = (w.alloc (.cells (bvs (List.replicate n 0)).toArray 5)).alloc (.cells #[.pointer (some ⟨pw, 0, none⟩), .slice (some ⟨w.heap.size, 0, none⟩) n n, .slice none 0 0, .int .i64 0] 54))
    (hpost : AttPost w2 pw (w.heap.size + 1) (.slice none 0 0) [] e w') :
    e = .returned (.tuple #[]) ∧ NewPost w pw n (.returned (.tuple #[.pointer (some ⟨w.heap.size + 1, 0, none⟩), .int .i64 0])) w' := by
  obtain ⟨dv', W, rfl, rfl, hdv', hkW, hb'⟩ := hpost
  refine ⟨rfl, ?_⟩
  have hpl := hp.lt
  have hs2 : w2.heap.size = w.heap.size + 2 := by rw [hw2]; simp
  have k2 : Kept (fun _ => True) w w2 := by rw [hw2]; exact ((Kept.refl _ w).alloc _).alloc _
  have hkW2 : Kept (fun _ => True) w2 W := hkW.mono fun b _ _ => by intro e; cases e
  have hB : Blk W w.heap.size (List.replicate n 0) := by
    have : Blk w2 w.heap.size (List.replicate n 0) := by
      rw [hw2]
      exact Blk.alloc (show Blk (w.alloc _) w.heap.size _ from heap_alloc_new w _) _
    exact (hkW2.block _ (by omega) trivial).trans this
  have hD : Cells W (w.heap.size + 1) 54 [.pointer (some ⟨pw, 0, none⟩), .slice (some ⟨w.heap.size, 0, none⟩) n n, .slice none 0 0, .int .i64 0] := by
    have := Cells.new (w.alloc (.cells (bvs (List.replicate n 0)).toArray 5)) #[.pointer (some ⟨pw, 0, none⟩), .slice (some ⟨w.heap.size, 0, none⟩) n n, .slice none 0 0, .int .i64 0] 54
    have e : (w.alloc (.cells (bvs (List.replicate n 0)).toArray 5)).heap.size = w.heap.size + 1 := by simp
    rw [e, ← hw2] at this
    exact this.move (hkW2.block _ (by omega) trivial)
  have hP : Cells W pw 59 [.slice none 0 0, .bool false, .int .i64 0, .int .i64 0, .slice none 0 0] := (Cells.move hp (k2.block pw hpl trivial)).move (hkW2.block _ (by omega) trivial)
  have hnew : ∀ b, dv'.ownBlock = some b → w.heap.size + 2 ≤ b ∧ b < W.heap.size := by
    intro b hb
    refine ⟨?_, (hdv'.ge b hb).2⟩
    rcases hb' with q | ⟨b2, q, q2⟩
    · rw [q] at hb; cases hb
    · rw [q] at hb; cases hb; omega
  have hsz : (W.setCell ⟨pw, 0, none⟩ dv').heap.size = W.heap.size := by simp [World.setCell]
  have hWs : w.heap.size + 2 ≤ W.heap.size := by have := hkW2.size; omega
  have hk : Kept (fun b => b ≠ pw) w (W.setCell ⟨pw, 0, none⟩ dv') := ((k2.trans ⟨hkW2.os, hkW2.tape, hkW2.output, hkW2.size, hkW2.block⟩).mono fun _ _ _ => trivial).setCell (fun h => h rfl) _
  have hkS : Kept (fun b => b ≠ pw) W (W.setCell ⟨pw, 0, none⟩ dv') := (Kept.refl _ W).setCell (fun h => h rfl) _
  obtain ⟨O, hO⟩ : ∃ O : Nat → Option Tag, O = fun b => if b = pw then some .pw else if b = w.heap.size then some .bytes else if b = w.heap.size + 1 then some .nv else if dv'.ownBlock = some b then some .dev else none := ⟨_, rfl⟩
  have o1 : O pw = some .pw := by rw [hO]; exact if_pos rfl
  have o2 : O w.heap.size = some .bytes := by rw [hO]; simp only [if_neg (show ¬ w.heap.size = pw by omega), if_true]
  have o3 : O (w.heap.size + 1) = some .nv := by rw [hO]; simp only [if_neg (show ¬ w.heap.size + 1 = pw by omega), if_neg (show ¬ w.heap.size + 1 = w.heap.size by omega), if_true]
  have o4 : ∀ b, dv'.ownBlock = some b → O b = some .dev := fun b hb => by
    have := hnew b hb
    rw [hO]
    simp only [if_neg (show ¬ b = pw by omega), if_neg (show ¬ b = w.heap.size by omega), if_neg (show ¬ b = w.heap.size + 1 by omega), if_pos hb]
  have o5 : ∀ b, b < w.heap.size → b ≠ pw → O b = none := fun b hb hn => by
    rw [hO]
    simp only [if_neg hn, if_neg (show ¬ b = w.heap.size by omega), if_neg (show ¬ b = w.heap.size + 1 by omega)]
    rw [if_neg (fun e => by have := hnew b e; omega)]
  have o6 : ∀ b, O b ≠ none → b < W.heap.size := fun b hb => by
    by_cases q : b < w.heap.size + 2
    · omega
    · rw [hO] at hb
      simp only [if_neg (show ¬ b = pw by omega), if_neg (show ¬ b = w.heap.size by omega), if_neg (show ¬ b = w.heap.size + 1 by omega)] at hb
      by_cases q2 : dv'.ownBlock = some b
      · exact (hnew b q2).2
      · rw [if_neg q2] at hb; exact absurd rfl hb
  clear hO
  refine ⟨O, w.heap.size + 1, rfl, ⟨fun b hb => by rw [hsz]; exact o6 b hb, ?_, Dev.new_ok h1 h2, ?_⟩, o5, hk⟩
  · refine ⟨w.heap.size, .slice none 0 0, [], ?_, o3, (hkS.block _ (by omega) (by omega)).trans hB, o2, OwnV.nil _ _ _, (fun g hg => by cases hg), rfl, fun k u hu => by simp [Dev.new] at hu⟩
    have := hD.move (hkS.block _ (by omega) (show w.heap.size + 1 ≠ pw by omega))
    simp only [Dev.new, List.length_replicate]
    exact this
  · refine ⟨dv', none, 0, hP.set 0 dv', o1, ?_, o4, RI.nil _ _ _, (fun ad he => by cases he), Nat.le_refl _, Nat.zero_le _⟩
    exact hdv'.move fun g hg => hkS.block g (hnew g hg).2 (by have := hnew g hg; omega)

set_option maxRecDepth 20000 in
set_option maxHeartbeats 1000000 in
theorem new_ok (pw n : Nat) (w : World) (hp : PowNew w pw) (h1 : 64 ≤ n) (h2 : n ≤ 67108864) :
    Calls Tryd.prog 6 #[.pointer (some ⟨pw, 0, none⟩), .int .i64 (n : Int)] w (NewPost w pw n) := by
  obtain ⟨cs, Hcs, hmk⟩ := make_run n (by omega)
  have hcs := Hcs.out
  have hpl := hp.lt
  obtain ⟨w2, hw2⟩ : ∃ w2, w2 = (w.alloc (.cells cs 5)).alloc (.cells #[.pointer (some ⟨pw, 0, none⟩), .slice (some ⟨w.heap.size, 0, none⟩) n n, .slice none 0 0, .int .i64 0] 54) := ⟨_, rfl⟩
  have k2 : Kept (fun _ => True) w w2 := by rw [hw2]; exact ((Kept.refl _ w).alloc _).alloc _
  have hP2 : PowNew w2 pw := Cells.move hp (k2.block pw hpl trivial)
  have Hatt : Hid (Calls Tryd.prog 18 #[.pointer (some ⟨pw, 0, none⟩), .iface 23 (.pointer (some ⟨w.heap.size + 1, 0, none⟩))] w2 fun e w' => e = .returned (.tuple #[]) ∧ NewPost w pw n (.returned (.tuple #[.pointer (some ⟨w.heap.size + 1, 0, none⟩), .int .i64 0])) w') :=
    (attach_any pw (w.heap.size + 1) (.slice none 0 0) [] w2 (Cells.cell hP2 rfl) (Cells.frozen hP2 0) (Cells.lt hP2) (OwnV.nil _ _ _) (by intro e; cases e) (by simp)).mono fun e w' hpost => new_facts hp h1 h2 (by rw [hw2, hcs]) hpost
  have q0 : w2.cell? ⟨w.heap.size + 1, 0, none⟩ = some (.pointer (some ⟨pw, 0, none⟩)) := by
    have := (Cells.new (w.alloc (.cells cs 5)) #[.pointer (some ⟨pw, 0, none⟩), .slice (some ⟨w.heap.size, 0, none⟩) n n, .slice none 0 0, .int .i64 0] 54).cell (i := 0) rfl
    have e : (w.alloc (.cells cs 5)).heap.size = w.heap.size + 1 := by simp
    rw [e, ← hw2] at this
    exact this
  have b1 : (64 : Int) ≤ (n : Int) := by omega
  have b2 : (n : Int) ≤ 67108864 := by omega
  clear hp hcs hP2 k2 h1 h2
  go_enter Tryd.func6, Tryd.ntmps6
  go_upto_region 4 with fail
  rw [← hw2]
  clear hw2
  go_wp2_with (go_at_call 18; refine Hatt.out.mono ?_; rintro e w3 ⟨rfl, hn⟩; have Hn := Lib.hid hn; clear hn)
  go_ret2
  exact Hn.out
set_option maxRecDepth 20000 in
theorem new_bad (v : Value) (n : Int) (w : World) (h : n < 64 ∨ 67108864 < n) : Calls Tryd.prog 6 #[v, .int .i64 n] w fun e w' => e = .returned (.tuple #[.pointer none, .int .i64 1]) ∧ w = w' := by
  by_cases h1 : n < 64
  · clear h
    go_enter Tryd.func6, Tryd.ntmps6
    go_wp2_with fail
    go_ret2
    exact ⟨rfl, rfl⟩
  · have h2 : 67108864 < n := by omega
    have h3 : 64 ≤ n := by omega
    clear h h1
    go_enter Tryd.func6, Tryd.ntmps6
    go_wp2_with fail
    go_ret2
    exact ⟨rfl, rfl⟩
end Go.Proofs.YtkjogkmdldplgaaDoor
