/-
  The second saying's write, of whatever power; a drive's write.
-/
import Derived.Test.YtdnlikhfemhmeaaRWrite2
namespace Go.Proofs.Ytdnlikhfemhmeaa
open Go.RowKit

set_option maxRecDepth 20000 in
set_option maxHeartbeats 1000000 in
theorem rwrite_any (pw : Nat) (P : Pow) (ds : List (Nat × Drv)) (O : Nat → Option Tag) (w : World) (h : RSysAt w O pw P ds) (hn : ds.length ≤ 1048576) (hw : P.writes ≤ 1099511627776) (hl : P.left ≤ 9223372036854775807) :
    Calls Try.prog 54 #[.pointer (some ⟨pw, 0, none⟩)] w fun e w' => e = .returned (.bool (writeOk P)) ∧ RWritePost w O pw P ds w' := by
  rcases hoff : P.off with _ | _
  case false =>
    by_cases h1l : P.left = 1
    · exact rfail_any pw P ds O w h hn hoff h1l
    obtain ⟨dv, A, n, c, h1, h2, h3⟩ := h.pow
    have c0 := h1.cell (i := 0) rfl
    have c1 := h1.cell (i := 1) rfl
    have c3 := h1.cell (i := 3) rfl
    have f1 := h1.frozen 1
    have f3 := h1.frozen 3
    rw [hoff] at c0
    have e1 : writeOk P = true := by unfold writeOk; rw [hoff]; simp [h1l]
    have e2 : writeP P = { P with left := P.left - 1, writes := P.writes + 1 } := by unfold writeP; rw [hoff, if_neg (by decide), if_neg h1l]
    have e3 : writeD P ds = ds := by unfold writeD; rw [hoff, if_neg (by decide), if_neg h1l]
    have hw' : (P.writes : Int) ≤ 1099511627776 := by omega
    have ht : (((P.left : Nat) : Int) == 1) = false := by simp; omega
    by_cases h0 : P.left = 0
    · have Hr : Hid (RWritePost w O pw P ds (w.setCell ⟨pw, 3, none⟩ (.int .i64 ((P.writes : Int) + 1)))) := by
        have hk : Kept (fun b => b ≠ pw) w (w.setCell ⟨pw, 3, none⟩ (.int .i64 ((P.writes : Int) + 1))) := (Kept.refl _ w).setCell (fun h => h rfl) _
        obtain ⟨r1, r2⟩ := h.pow_set (P' := { P with left := P.left - 1, writes := P.writes + 1 }) hk (fun dv x hc => by
          have e9 : ((P.left - 1 : Nat) : Int) = (P.left : Int) := by omega
          rw [e9]
          exact hc.set 3 (.int .i64 ((P.writes : Int) + 1))) (fun hne => absurd (show P.left - 1 = 0 by omega) hne)
        refine ⟨O, ?_, r2, fun _ => ⟨rfl, hk⟩⟩
        rw [e2, e3]
        exact r1
      rw [h0] at c1
      have c1' : w.cell? ⟨pw, 1, none⟩ = some (.int .i64 0) := c1
      rw [e1]
      clear c1 h1 h2 h3 h hoff e1 e2 e3 ht h0 h1l hl hn hw
      go_enter Try.func54, Try.ntmps54
      go_wp2_with fail
      go_ret
      exact ⟨rfl, Hr.out⟩
    · have e4 : ((P.left - 1 : Nat) : Int) = (P.left : Int) - 1 := by omega
      have Hr : Hid (RWritePost w O pw P ds ((w.setCell ⟨pw, 1, none⟩ (.int .i64 ((P.left : Int) - 1))).setCell ⟨pw, 3, none⟩ (.int .i64 ((P.writes : Int) + 1)))) := by
        have hk : Kept (fun b => b ≠ pw) w ((w.setCell ⟨pw, 1, none⟩ (.int .i64 ((P.left : Int) - 1))).setCell ⟨pw, 3, none⟩ (.int .i64 ((P.writes : Int) + 1))) := ((Kept.refl _ w).setCell (fun h => h rfl) _).setCell (fun h => h rfl) _
        obtain ⟨r1, r2⟩ := h.pow_set (P' := { P with left := P.left - 1, writes := P.writes + 1 }) hk (fun dv x hc => by
          rw [e4]
          exact (hc.set 1 (.int .i64 ((P.left : Int) - 1))).set 3 (.int .i64 ((P.writes : Int) + 1))) (fun _ => ⟨h0, rfl⟩)
        refine ⟨O, ?_, r2, fun _ => ⟨rfl, hk⟩⟩
        rw [e2, e3]
        exact r1
      have hl' : (P.left : Int) ≤ 9223372036854775807 := by omega
      have h2' : (1 : Int) ≤ (P.left : Int) := by omega
      have h3' : (0 : Int) < (P.left : Int) := by omega
      rw [e1]
      clear h1 h2 h3 h hoff e1 e2 e3 e4 h0 h1l hl hn hw
      go_enter Try.func54, Try.ntmps54
      go_wp2_with fail
      go_ret
      exact ⟨rfl, Hr.out⟩
  case true =>
    obtain ⟨dv, A, n, c, h1, h2, h3⟩ := h.pow
    have c0 := h1.cell (i := 0) rfl
    rw [hoff] at c0
    have e1 : writeOk P = false := by unfold writeOk; rw [hoff]; rfl
    have Hr : Hid (RWritePost w O pw P ds w) := by
      refine ⟨O, ?_, Ext.refl _ _, fun hh => by rw [e1] at hh; cases hh⟩
      have e2 : writeP P = P := by unfold writeP; rw [hoff, if_pos rfl]
      have e3 : writeD P ds = ds := by unfold writeD; rw [hoff, if_pos rfl]
      rw [e2, e3]
      exact h
    rw [e1]
    clear h1 h2 h3 h hoff e1
    go_enter Try.func54, Try.ntmps54
    go_wp2_with fail
    go_ret
    exact ⟨rfl, Hr.out⟩

set_option maxRecDepth 20000 in
theorem rdwrite_any (pw i d : Nat) (P : Pow) (ds : List (Nat × Drv)) (D : Drv) (O : Nat → Option Tag) (w : World) (h : RSysAt w O pw P ds) (hi : ds[i]? = some (d, D)) (hn : ds.length ≤ 1048576) (hw : P.writes ≤ 1099511627776) (hl : P.left ≤ 9223372036854775807) :
    Calls Try.prog 51 #[.pointer (some ⟨d, 0, none⟩)] w fun e w' => e = .returned (.int .i64 ((if writeOk P then 0 else 8 : Nat) : Int)) ∧ RWritePost w O pw P ds w' := by
  have Hw := Lib.hid (rwrite_any pw P ds O w h hn hw hl)
  obtain ⟨g, cs, h1, _⟩ := (h.drv i d D hi).1
  have c0 := h1.cell (i := 0) rfl
  clear h h1 hi
  rcases hok : writeOk P with _ | _
  all_goals
    rw [hok] at Hw
    go_enter Try.func51, Try.ntmps51
    go_wp2_with (go_at_call 54; refine Hw.out.mono ?_; rintro e w2 ⟨rfl, hp⟩; have Hp := Lib.hid hp; clear hp)
    go_ret
    exact ⟨rfl, Hp.out⟩
end Go.Proofs.Ytdnlikhfemhmeaa
