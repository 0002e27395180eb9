/-
  A write is begun.
-/
import Derived.Test.YtdnlikhfemhmeaaZSys
namespace Go.Proofs.Ytdnlikhfemhmeaa
open Go.RowKit

def writeOk (P : Pow) : Bool := !P.off && !(P.left == 1)
def writeP (P : Pow) : Pow := if P.off then P else if P.left = 1 then { P with off := true, left := 0, picks := [] } else { P with left := P.left - 1, writes := P.writes + 1 }
def writeD (P : Pow) (ds : List (Nat × Drv)) : List (Nat × Drv) := if P.off then ds else if P.left = 1 then ds.map (fun x => (x.1, x.2.cut P.picks)) else ds

/-- the numbers of the power are another ones -/
theorem SysAt.pow_set {w w' : World} {O : Nat → Option Tag} {pw : Nat} {P P' : Pow} {ds : List (Nat × Drv)} (h : SysAt w O pw P ds) (hk : Kept (fun b => b ≠ pw) w w')
    (hc : ∀ dv x, Cells w pw 68 [dv, .bool P.off, .int .i64 (P.writes : Int), .int .i64 (P.left : Int), x] → Cells w' pw 68 [dv, .bool P'.off, .int .i64 (P'.writes : Int), .int .i64 (P'.left : Int), x]) (hp : P'.picks = P.picks) :
    SysAt w' O pw P' ds ∧ Ext w O w' O := by
  obtain ⟨dv, A, c, h1, h2, h3, h4, h5, h6, h7, h8⟩ := h.pow
  have ht : ∀ b t, O b = some t → t ≠ .pw → b ≠ pw := fun b t hb ht e => ht (by rw [e, h2] at hb; cases hb; rfl)
  refine ⟨⟨fun b hb => Nat.lt_of_lt_of_le (h.fresh b hb) hk.size, fun i d D hi => ⟨(h.drv i d D hi).1.kept hk (fun b t hb hd => ht b t hb (by intro e; subst e; cases hd)), (h.drv i d D hi).2⟩, ?_⟩, hk.mono (fun b _ hb e => by rw [e, h2] at hb; cases hb), fun _ _ => rfl⟩
  rw [← hp] at h1 h5 h7 h8
  exact ⟨dv, A, c, hc _ _ h1, h2, h3.move fun g hg => hk.block g (h3.ge g hg).2 (ht g _ (h4 g hg) (by intro e; cases e)), h4, (h5.kept hk (fun ad he => ht _ _ (h6 ad he) (by intro e; cases e)) (Nat.le_refl _)).wide hk.size, h6, h7, h8⟩

set_option maxRecDepth 20000 in
set_option maxHeartbeats 1000000 in
theorem write_any (pw : Nat) (P : Pow) (ds : List (Nat × Drv)) (O : Nat → Option Tag) (w : World) (h : SysAt w O pw P ds) (hn : ds.length ≤ 1048576) (hw : P.writes ≤ 1099511627776) (hl : P.left ≤ 9223372036854775807) :
    Calls Try.prog 44 #[.pointer (some ⟨pw, 0, none⟩)] w fun e w' => e = .returned (.bool (writeOk P)) ∧ SysAt w' O pw (writeP P) (writeD P ds) ∧ Ext w O w' O ∧ (writeOk P = true → Kept (fun b => b ≠ pw) w w') := by
  obtain ⟨dv, A, c, h1, h2, h3⟩ := h.pow
  have c1 := h1.cell (i := 1) rfl
  have c2 := h1.cell (i := 2) rfl
  have c3 := h1.cell (i := 3) rfl
  have f2 := h1.frozen 2
  have f3 := h1.frozen 3
  have Hset : Hid (∀ (l : Nat) (P' : Pow), P' = { P with left := l, writes := P.writes + 1 } → SysAt ((w.setCell ⟨pw, 3, none⟩ (.int .i64 (l : Int))).setCell ⟨pw, 2, none⟩ (.int .i64 ((P.writes : Int) + 1))) O pw P' ds ∧
      Ext w O ((w.setCell ⟨pw, 3, none⟩ (.int .i64 (l : Int))).setCell ⟨pw, 2, none⟩ (.int .i64 ((P.writes : Int) + 1))) O ∧
      (true = true → Kept (fun b => b ≠ pw) w ((w.setCell ⟨pw, 3, none⟩ (.int .i64 (l : Int))).setCell ⟨pw, 2, none⟩ (.int .i64 ((P.writes : Int) + 1))))) := by
    rintro l P' rfl
    have hk : Kept (fun b => b ≠ pw) w ((w.setCell ⟨pw, 3, none⟩ (.int .i64 (l : Int))).setCell ⟨pw, 2, none⟩ (.int .i64 ((P.writes : Int) + 1))) := ((Kept.refl _ w).setCell (fun h => h rfl) _).setCell (fun h => h rfl) _
    suffices hh : SysAt _ O pw { P with left := l, writes := P.writes + 1 } ds ∧ Ext w O _ O from ⟨hh.1, hh.2, fun _ => hk⟩
    refine h.pow_set hk (fun dv x hc => ?_) rfl
    exact (hc.set 3 (.int .i64 (l : Int))).set 2 (.int .i64 ((P.writes : Int) + 1))
  have Hfail := Lib.hid (fail_any pw P ds O w h hn)
  have Hh := Lib.hid h
  clear h h1 h2 h3
  have hw' : (P.writes : Int) ≤ 1099511627776 := by omega
  rcases hoff : P.off with _ | _
  case true =>
    rw [hoff] at c1
    have e1 : writeOk P = false := by unfold writeOk; rw [hoff]; rfl
    have Hr : Hid (SysAt w O pw (writeP P) (writeD P ds) ∧ Ext w O w O ∧ (false = true → Kept (fun b => b ≠ pw) w w)) := by
      unfold writeP writeD
      rw [hoff]
      exact ⟨Hh.out, Ext.refl _ _, (fun h => by cases h)⟩
    rw [e1]
    clear e1 Hset Hfail hoff
    go_enter Try.func44, Try.ntmps44
    go_wp2_with fail
    go_ret
    exact ⟨rfl, Hr.out⟩
  rw [hoff] at c1
  by_cases h1 : P.left = 1
  · have e1 : writeOk P = false := by unfold writeOk; rw [hoff, h1]; rfl
    have e2 : writeP P = { P with off := true, left := 0, picks := [] } := by unfold writeP; rw [hoff, if_neg (by decide), if_pos h1]
    have e3 : writeD P ds = ds.map (fun x => (x.1, x.2.cut P.picks)) := by unfold writeD; rw [hoff, if_neg (by decide), if_pos h1]
    rw [h1] at c3
    have c3' : w.cell? ⟨pw, 3, none⟩ = some (.int .i64 1) := c3
    rw [e1, e2, e3]
    clear e1 e2 e3 Hset hoff c3 h1
    go_enter Try.func44, Try.ntmps44
    go_wp2_with (go_at_call 53; refine Hfail.out.mono ?_; rintro e w1 ⟨rfl, hs⟩; have Hs := Lib.hid hs; clear hs)
    go_ret
    exact ⟨rfl, Hs.out.1, Hs.out.2, (fun h => by cases h)⟩
  have e1 : writeOk P = true := by unfold writeOk; rw [hoff]; simp [h1]
  have e2 : writeP P = { P with left := P.left - 1, writes := P.writes + 1 } := by unfold writeP; rw [hoff, if_neg (by decide), if_neg h1]
  have e3 : writeD P ds = ds := by unfold writeD; rw [hoff, if_neg (by decide), if_neg h1]
  have Hr := Lib.hid (Hset.out (P.left - 1) _ rfl)
  rw [e1, e2, e3]
  have ht : (((P.left : Nat) : Int) == 1) = false := by simp; omega
  clear e1 e2 e3 Hset Hfail hoff
  by_cases h0 : P.left = 0
  · rw [h0] at c3
    have c3' : w.cell? ⟨pw, 3, none⟩ = some (.int .i64 0) := c3
    rw [h0] at Hr
    rw [h0]
    clear c3 h1 ht h0 hl
    go_enter Try.func44, Try.ntmps44
    go_wp2_with fail
    go_ret
    exact ⟨rfl, Hr.out.1, Hr.out.2.1, Hr.out.2.2 trivial⟩
  · have e4 : ((P.left - 1 : Nat) : Int) = (P.left : Int) - 1 := by omega
    rw [e4] at Hr
    have hl' : (P.left : Int) ≤ 9223372036854775807 := by omega
    have h2' : (1 : Int) ≤ (P.left : Int) := by omega
    have h3' : (0 : Int) ≤ (P.left : Int) - 1 := by omega
    have hmx : max ((P.left : Int) - 1) 0 = (P.left : Int) - 1 := by omega
    clear e4 h0 h1 hl
    go_enter Try.func44, Try.ntmps44
    go_wp2_with fail
    go_ret
    exact ⟨rfl, Hr.out.1, Hr.out.2.1, Hr.out.2.2 trivial⟩
end Go.Proofs.Ytdnlikhfemhmeaa
