/-
  The second saying's Clear.
-/
import Derived.Test.YtdnlikhfemhmeaaRAppend2
import Derived.Test.YtdnlikhfemhmeaaZLose
namespace Go.Proofs.Ytdnlikhfemhmeaa
open Go.RowKit

def wipeTo (k : Nat) (ps : List Pile) : List Pile := List.replicate k ⟨[], 0⟩ ++ ps.drop k
theorem wipeTo_len (k : Nat) (ps : List Pile) (h : k ≤ ps.length) : (wipeTo k ps).length = ps.length := by unfold wipeTo; simp; omega
theorem wipeTo_set (k : Nat) (ps : List Pile) (h : k < ps.length) : (wipeTo k ps).set k ⟨[], 0⟩ = wipeTo (k + 1) ps := by
  unfold wipeTo
  rw [List.set_append_right _ _ (by simp), List.length_replicate, Nat.sub_self, List.drop_eq_getElem_cons h, List.set_cons_zero, List.replicate_succ']
  simp
def RClearRel (w : World) (O : Nat → Option Tag) (i pw d : Nat) (D : Drv) (b : Bool) (k : Nat) (wr : World) : Prop :=
  RDrvAt wr O i pw d { D with piles := wipeTo k D.piles, lost := b } ∧ Kept (fun x => O x ≠ some (.piles i) ∧ O x ≠ some (.drv i)) w wr

set_option maxRecDepth 20000 in
set_option maxHeartbeats 1000000 in
theorem rclear_any (pw i d : Nat) (P : Pow) (ds : List (Nat × Drv)) (D : Drv) (O : Nat → Option Tag) (b : Bool) (w : World) (h : RSysAt w O pw P ds) (hi : ds[i]? = some (d, D)) :
    Calls Try.prog 32 #[.pointer (some ⟨d, 0, none⟩), .bool b] w fun e w' => e = .returned (.tuple #[]) ∧ RSysAt w' O pw P (ds.set i (d, D.empty b)) ∧ Ext w O w' O := by
  obtain ⟨g, cs, h1, h2, h3, h4, h5, h6⟩ := (h.drv i d D hi).1
  have hokD := (h.drv i d D hi).2
  have c4 := h1.cell (i := 4) rfl
  have f4 := h1.frozen 4
  obtain ⟨N, hN⟩ : ∃ N, N = D.piles.length := ⟨_, rfl⟩
  have hN1 : (N : Int) ≤ 4096 := by have := hokD.zones; omega
  have HN := Lib.hid hN
  have Hst : Hid (RClearRel w O i pw d D b 0 (w.setCell ⟨d, 4, none⟩ (.bool b))) := by
    have hk : Kept (fun x => O x ≠ some (.piles i) ∧ O x ≠ some (.drv i)) w (w.setCell ⟨d, 4, none⟩ (.bool b)) := (Kept.refl _ w).setCell (fun hh => hh.2 h2) _
    have hgd : g ≠ d := by intro e; rw [e, h2] at h4; cases h4
    have hag : Agree (fun t => t ≠ .piles i ∧ t ≠ .drv i) w O (w.setCell ⟨d, 4, none⟩ (.bool b)) O := hk.agree fun x t hx ht => ⟨(fun e => ht.1 (by rw [hx] at e; cases e; rfl)), (fun e => ht.2 (by rw [hx] at e; cases e; rfl))⟩
    refine ⟨⟨g, cs, ?_, h2, h3.move (Below.heap_setCell _ _ _ _ hgd), h4, by simpa [wipeTo] using h5, fun z p hz => (h6 z p (by simpa [wipeTo] using hz)).keep hag ⟨(by intro e; cases e), (by intro e; cases e)⟩ (fun k => ⟨(by intro e; cases e), (by intro e; cases e)⟩)⟩, hk⟩
    have := h1.set 4 (.bool b)
    simpa [wipeTo] using this
  have Hfin : Hid (∀ wr, RClearRel w O i pw d D b N wr → RSysAt wr O pw P (ds.set i (d, D.empty b)) ∧ Ext w O wr O) := by
    rintro wr ⟨q1, q2⟩
    have e : wipeTo N D.piles = List.replicate D.piles.length ⟨[], 0⟩ := by unfold wipeTo; rw [hN]; simp
    rw [e] at q1
    exact h.change (O' := O) hi q2 (fun x t hx ht => ⟨(fun e => by rw [hx] at e; cases e; exact ht rfl), (fun e => by rw [hx] at e; cases e; exact ht rfl)⟩) (fun x hx => ⟨(fun e => by rw [hx] at e; cases e), (fun e => by rw [hx] at e; cases e)⟩) (fun _ _ => rfl) (fun x hx => Nat.lt_of_lt_of_le (h.fresh x hx) q2.size) q1 (hokD.empty b)
  clear h hi h1 h2 h3 h4 h5 h6 hokD hN
  go_enter Try.func32, Try.ntmps32
  go_wp2_with fail
  clear c4 f4
  go_loopw [4] (fun iv wr => ∃ k : Nat, iv = .int .i64 (k : Int) ∧ k ≤ N ∧ Hid (RClearRel w O i pw d D b k wr)) (fun iv _ => N - (intOf iv).toNat)
  case atStart => exact ⟨0, rfl, Nat.zero_le _, Hst.out⟩
  case round =>
    obtain ⟨k, rfl, hk, hrel⟩ := hrel
    obtain ⟨⟨g2, cs2, h1, h2, h3, h4, h5, h6⟩, hkp⟩ := hrel.out
    have hlen : (wipeTo k D.piles).length = N := by rw [wipeTo_len k D.piles (by rw [← HN.out]; exact hk), HN.out]
    simp only [hlen] at h1 h5
    have hd1 : wr.cell? ⟨d, 3, none⟩ = some (.slice (some ⟨g2, 0, none⟩) N N) := h1.cell rfl
    by_cases hlt : k < N
    case neg =>
      obtain rfl : k = N := by omega
      have Hf := Lib.hid (Hfin.out wr hrel.out)
      clear hlt hk h1 h2 h3 h4 h5 h6 hkp hrel
      go_wp2_with fail
      go_end0
      exact ⟨rfl, Hf.out⟩
    have hk' : (k : Int) < (N : Int) := by omega
    obtain ⟨u0, hu0⟩ : ∃ u, cs2[k * 2]? = some u := ⟨_, List.getElem?_eq_getElem (by omega)⟩
    obtain ⟨u1, hu1⟩ : ∃ u, cs2[k * 2 + 1]? = some u := ⟨_, List.getElem?_eq_getElem (by omega)⟩
    have x0 := h3.cell hu0
    have x1 := h3.cell hu1
    have y0 := h3.frozen (k * 2)
    have y1 := h3.frozen (k * 2 + 1)
    have Hnext : Hid (RClearRel w O i pw d D b (k + 1) ((wr.setCell ⟨g2, k * 2, none⟩ (.slice none 0 0)).setCell ⟨g2, k * 2 + 1, none⟩ (.int .i64 0))) := by
      obtain ⟨q1, q2⟩ := RDrvAt.blank (D := { D with piles := wipeTo k D.piles, lost := b }) (z := k) (by simp only [hlen]; exact h1) h2 h3 h4 (by simp only [hlen]; exact h5) h6 (by simp only [hlen]; exact hlt)
      refine ⟨?_, hkp.trans (q2.mono fun x _ hx => hx.1)⟩
      have e9 := wipeTo_set k D.piles (by rw [← HN.out]; exact hlt)
      simp only [Drv.reset, e9] at q1
      exact q1
    clear h1 h2 h3 h4 h5 h6 hkp hu0 hu1 hlen
    go_wp2_with fail
    go_roundw
    case rel => exact ⟨k + 1, by go_num, by omega, Hnext.out⟩
    case measure => simp [intOf]; omega
end Go.Proofs.Ytdnlikhfemhmeaa
