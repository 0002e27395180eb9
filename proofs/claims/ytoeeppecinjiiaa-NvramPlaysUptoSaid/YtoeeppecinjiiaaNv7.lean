/-
  A write is begun; the power is put on; all is made to outlast cuts.
-/
import Derived.Test.YtoeeppecinjiiaaNv6
namespace Go.Proofs.Ytoeeppecinjiiaa
open Go.RowKit

set_option maxRecDepth 20000 in
set_option maxHeartbeats 1000000 in
theorem write_any (pw nv : Nat) (P : Pow) (D : Dev) (O : Nat → Option Tag) (w : World) (h : SysAt w O pw P nv D) (hpd : D.pending ≤ 1099511627776) (hw : P.writes ≤ 1099511627776) (hl : P.left ≤ 9223372036854775807) :
    Calls Try.prog 27 #[.pointer (some ⟨pw, 0, none⟩)] w fun e w' => e = .returned (.bool (writeOk P)) ∧ (∃ O', SysAt w' O' pw (writeP P) nv (writeD P D) ∧ Ext w O w' O') ∧ (writeOk P = true → SysAt w' O pw (writeP P) nv D ∧ Kept (fun b => b ≠ pw) w w') := by
  obtain ⟨dv, A, c, h1, h2, h3⟩ := h.pow
  have c1 := h1.cell (i := 1) rfl
  have c2 := h1.cell (i := 2) rfl
  have c3 := h1.cell (i := 3) rfl
  have f2 := h1.frozen 2
  have f3 := h1.frozen 3
  have Hset : Hid (∀ (l : Nat) (P' : Pow), P' = { P with left := l, writes := P.writes + 1 } → SysAt ((w.setCell ⟨pw, 3, none⟩ (.int .i64 (l : Int))).setCell ⟨pw, 2, none⟩ (.int .i64 ((P.writes : Int) + 1))) O pw P' nv D ∧
      Ext w O ((w.setCell ⟨pw, 3, none⟩ (.int .i64 (l : Int))).setCell ⟨pw, 2, none⟩ (.int .i64 ((P.writes : Int) + 1))) O ∧
      (true = true → Kept (fun b => b ≠ pw) w ((w.setCell ⟨pw, 3, none⟩ (.int .i64 (l : Int))).setCell ⟨pw, 2, none⟩ (.int .i64 ((P.writes : Int) + 1))))) := by
    rintro l P' rfl
    have hk : Kept (fun b => b ≠ pw) w ((w.setCell ⟨pw, 3, none⟩ (.int .i64 (l : Int))).setCell ⟨pw, 2, none⟩ (.int .i64 ((P.writes : Int) + 1))) := ((Kept.refl _ w).setCell (fun h => h rfl) _).setCell (fun h => h rfl) _
    suffices hh : SysAt _ O pw { P with left := l, writes := P.writes + 1 } nv D ∧ Ext w O _ O from ⟨hh.1, hh.2, fun _ => hk⟩
    refine h.pow_set hk (fun dv x hc => ?_) rfl
    exact (hc.set 3 (.int .i64 (l : Int))).set 2 (.int .i64 ((P.writes : Int) + 1))
  have Hfail := Lib.hid (fail_any pw nv P D O w h hpd)
  have Hh := Lib.hid h
  clear h h1 h2 h3
  have hw' : (P.writes : Int) ≤ 1099511627776 := by omega
  rcases hoff : P.off with _ | _
  case true =>
    rw [hoff] at c1
    have e1 : writeOk P = false := by unfold writeOk; rw [hoff]; rfl
    have Hr : Hid (SysAt w O pw (writeP P) nv (writeD P D) ∧ Ext w O w O) := by
      unfold writeP writeD
      rw [hoff]
      exact ⟨Hh.out, Ext.refl _ _⟩
    rw [e1]
    clear e1 Hset Hfail hoff
    go_enter Try.func27, Try.ntmps27
    go_wp2_with fail
    go_ret
    exact ⟨rfl, ⟨O, Hr.out.1, Hr.out.2⟩, (fun h => by cases h)⟩
  rw [hoff] at c1
  by_cases h1 : P.left = 1
  · have e1 : writeOk P = false := by unfold writeOk; rw [hoff, h1]; rfl
    have e2 : writeP P = { P with off := true, left := 0, picks := [] } := by unfold writeP; rw [hoff, if_neg (by decide), if_pos h1]
    have e3 : writeD P D = D.cut P.picks := by unfold writeD; rw [hoff, if_neg (by decide), if_pos h1]
    rw [h1] at c3
    have c3' : w.cell? ⟨pw, 3, none⟩ = some (.int .i64 1) := c3
    rw [e1, e2, e3]
    clear e1 e2 e3 Hset hoff c3 h1
    go_enter Try.func27, Try.ntmps27
    go_wp2_with (go_at_call 33; refine Hfail.out.mono ?_; rintro e w1 ⟨O1, rfl, hs, hx⟩; have Hs := Lib.hid hs; have Hx := Lib.hid hx; clear hs hx)
    go_ret
    exact ⟨rfl, ⟨O1, Hs.out, Hx.out⟩, (fun h => by cases h)⟩
  have e1 : writeOk P = true := by unfold writeOk; rw [hoff]; simp [h1]
  have e2 : writeP P = { P with left := P.left - 1, writes := P.writes + 1 } := by unfold writeP; rw [hoff, if_neg (by decide), if_neg h1]
  have e3 : writeD P D = D := by unfold writeD; rw [hoff, if_neg (by decide), if_neg h1]
  have Hr := Lib.hid (Hset.out (P.left - 1) _ rfl)
  rw [e1, e2, e3]
  have ht : (((P.left : Nat) : Int) == 1) = false := by simp; omega
  clear e1 e2 e3 Hset Hfail hoff
  by_cases h0 : P.left = 0
  · rw [h0] at c3
    have c3' : w.cell? ⟨pw, 3, none⟩ = some (.int .i64 0) := c3
    rw [h0] at Hr
    rw [h0]
    clear c3 h1 ht h0 hl
    go_enter Try.func27, Try.ntmps27
    go_wp2_with fail
    go_ret
    exact ⟨rfl, ⟨O, Hr.out.1, Hr.out.2.1⟩, Hr.out.1, Hr.out.2.2 trivial⟩
  · have e4 : ((P.left - 1 : Nat) : Int) = (P.left : Int) - 1 := by omega
    rw [e4] at Hr
    have hl' : (P.left : Int) ≤ 9223372036854775807 := by omega
    have h2' : (1 : Int) ≤ (P.left : Int) := by omega
    have h3' : (0 : Int) ≤ (P.left : Int) - 1 := by omega
    have hmx : max ((P.left : Int) - 1) 0 = (P.left : Int) - 1 := by omega
    clear e4 h0 h1 hl
    go_enter Try.func27, Try.ntmps27
    go_wp2_with fail
    go_ret
    exact ⟨rfl, ⟨O, Hr.out.1, Hr.out.2.1⟩, Hr.out.1, Hr.out.2.2 trivial⟩

section
variable {w : World} {O : Nat → Option Tag} {pw nv : Nat} {P : Pow} {D : Dev}
theorem sysOff (h : SysAt w O pw P nv D) : Calls Try.prog 19 #[.pointer (some ⟨pw, 0, none⟩)] w fun e w' => e = .returned (.bool P.off) ∧ w = w' := by
  obtain ⟨dv, A, c, h1, _⟩ := h.pow
  exact off_any pw P.off w (h1.cell rfl)
theorem sysPending (h : SysAt w O pw P nv D) : Calls Try.prog 20 #[.pointer (some ⟨nv, 0, none⟩)] w fun e w' => e = .returned (.int .i64 (D.pending : Int)) ∧ w = w' := pending_any nv _ w h.cells.2.2
theorem sysSize (h : SysAt w O pw P nv D) : Calls Try.prog 23 #[.pointer (some ⟨nv, 0, none⟩)] w fun e w' => e = .returned (.int .i64 (D.mem.length : Int)) ∧ w = w' := by
  obtain ⟨bb, hb⟩ := h.cells.2.1
  exact size_any nv _ _ _ w hb
set_option maxRecDepth 20000 in
theorem sysOn (h : SysAt w O pw P nv D) : Calls Try.prog 18 #[.pointer (some ⟨pw, 0, none⟩)] w (SysPost w O pw { P with off := false } nv D (.tuple #[])) := by
  obtain ⟨q1, q2⟩ := h.pow_set (P' := { P with off := false }) ((Kept.refl _ w).setCell (p := ⟨pw, 1, none⟩) (fun h => h rfl) (.bool false)) (fun dv x hc => hc.set 1 (.bool false)) rfl
  have Hq : Hid (SysPost w O pw { P with off := false } nv D (.tuple #[]) (.returned (.tuple #[])) (w.setCell ⟨pw, 1, none⟩ (.bool false))) := ⟨O, rfl, q1, q2⟩
  obtain ⟨dv, A, c, h1, _⟩ := h.pow
  have c1 := h1.cell (i := 1) rfl
  have f1 := h1.frozen 1
  clear h h1 q1 q2
  go_enter Try.func18, Try.ntmps18
  go_wp2_with fail
  go_end0
  exact Hq.out
end

def perCode (P : Pow) : Nat := if writeOk P then 0 else 8
def perD (P : Pow) (D : Dev) : Dev := if writeOk P then D.settle else writeD P D
def perP (P : Pow) : Pow := writeP P
set_option maxRecDepth 20000 in
set_option maxHeartbeats 1000000 in
theorem persist_any (pw nv : Nat) (P : Pow) (D : Dev) (O : Nat → Option Tag) (w : World) (h : SysAt w O pw P nv D) (hpd : D.pending ≤ 1099511627776) (hw : P.writes ≤ 1099511627776) (hl : P.left ≤ 9223372036854775807) :
    Calls Try.prog 14 #[.pointer (some ⟨nv, 0, none⟩)] w (SysPost w O pw (perP P) nv (perD P D) (.int .i64 (perCode P : Nat))) := by
  have k0 := h.cells.1
  have Ho := Lib.hid (sysOff h)
  have Hw := Lib.hid (write_any pw nv P D O w h hpd hw hl)
  have Hh := Lib.hid h
  unfold perP
  rcases hoff : P.off with _ | _
  case true =>
    have e1 : perCode P = 8 := by unfold perCode writeOk; rw [hoff]; rfl
    have e2 : perD P D = D := by unfold perD writeOk writeD; rw [hoff]; rfl
    have e3 : writeP P = P := by unfold writeP; rw [hoff]; rfl
    have Hs : Hid (SysPost w O pw P nv D (.int .i64 8) (.returned (.int .i64 8)) w) := ⟨O, rfl, Hh.out, Ext.refl _ _⟩
    rw [e1, e2, e3]
    rw [hoff] at Ho
    have Hg : Hid (SysPost w O pw P nv D (.int .i64 ((8 : Nat) : Int)) = SysPost w O pw P nv D (.int .i64 8)) := rfl
    rw [Hg.out]
    clear h Hw e1 e2 e3 hoff hpd hw hl Hg
    go_enter Try.func14, Try.ntmps14
    go_wp2_with (go_at_call 19; refine Ho.out.mono ?_; rintro e w1 ⟨rfl, rfl⟩)
    go_ret
    exact Hs.out
  rw [hoff] at Ho
  by_cases hok : writeOk P = true
  · have e1 : perCode P = 0 := by unfold perCode; rw [if_pos hok]
    have e2 : perD P D = D.settle := by unfold perD; rw [if_pos hok]
    rw [e1, e2]
    rw [hok] at Hw
    have Hse : Hid (∀ w2, SysAt w2 O pw (writeP P) nv D → Kept (fun b => b ≠ pw) w w2 → Calls Try.prog 29 #[.pointer (some ⟨nv, 0, none⟩)] w2 fun e w' => e = .returned (.tuple #[]) ∧ SysPost w O pw (writeP P) nv D.settle (.int .i64 0) (.returned (.int .i64 0)) w') := by
      intro w2 q1 q2
      refine (settle_any pw nv (writeP P) D O w2 q1).mono fun e w' ⟨O', he, s1, s2⟩ => ⟨he, O', rfl, s1, Ext.trans ⟨q2.mono (fun b _ hb e => ?_), fun _ _ => rfl⟩ s2⟩
      obtain ⟨dv, A, c, _, h2, _⟩ := Hh.out.pow
      rw [e, h2] at hb
      cases hb
    have Hg : Hid (SysPost w O pw (writeP P) nv D.settle (.int .i64 ((0 : Nat) : Int)) = SysPost w O pw (writeP P) nv D.settle (.int .i64 0)) := rfl
    rw [Hg.out]
    clear h e1 e2 hoff hpd hw hl Hg hok
    go_enter Try.func14, Try.ntmps14
    go_wp2_with (first
      | (go_at_call 19; refine Ho.out.mono ?_; rintro e w1 ⟨rfl, rfl⟩)
      | (go_at_call 27; refine Hw.out.mono ?_; rintro e w2 ⟨rfl, _, q2⟩; obtain ⟨q3, q4⟩ := q2 (by trivial); have Hs2 := Lib.hid (Hse.out w2 q3 q4); clear q2 q3 q4)
      | (go_at_call 29; refine Hs2.out.mono ?_; rintro e w3 ⟨rfl, q5⟩; have Hq := Lib.hid q5; clear q5))
    go_ret
    exact Hq.out
  · have hok' : writeOk P = false := by simpa using hok
    have e1 : perCode P = 8 := by unfold perCode; rw [hok']; rfl
    have e2 : perD P D = writeD P D := by unfold perD; rw [hok']; rfl
    rw [e1, e2]
    rw [hok'] at Hw
    have Hg : Hid (SysPost w O pw (writeP P) nv (writeD P D) (.int .i64 ((8 : Nat) : Int)) = SysPost w O pw (writeP P) nv (writeD P D) (.int .i64 8)) := rfl
    rw [Hg.out]
    clear h e1 e2 hoff hpd hw hl Hg hok hok'
    go_enter Try.func14, Try.ntmps14
    go_wp2_with (first
      | (go_at_call 19; refine Ho.out.mono ?_; rintro e w1 ⟨rfl, rfl⟩)
      | (go_at_call 27; refine Hw.out.mono ?_; rintro e w2 ⟨rfl, ⟨O2, q1, q2⟩, _⟩; have Hq : Hid (SysPost w O pw (writeP P) nv (writeD P D) (.int .i64 8) (.returned (.int .i64 8)) w2) := ⟨O2, rfl, q1, q2⟩; clear q1 q2))
    go_ret
    exact Hq.out
end Go.Proofs.Ytoeeppecinjiiaa
