/-
  The second saying's write: what stands behind some drives' cuts.
-/
import Derived.Test.YtdnlikhfemhmeaaRCut3
namespace Go.Proofs.Ytdnlikhfemhmeaa
open Go.RowKit

def RFailRel (w1 : World) (O : Nat → Option Tag) (pw : Nat) (picks : List Int) (ds : List (Nat × Drv)) (k : Nat) (wr : World) : Prop :=
  ∃ O' : Nat → Option Tag, (∀ b, b < w1.heap.size → O' b = O b) ∧ Kept (NotDrive O) w1 wr ∧ (∀ b, O' b ≠ none → b < wr.heap.size) ∧ (∀ b t, w1.heap.size ≤ b → O' b = some t → t.drive ≠ none) ∧
    ∀ (i : Nat) d D, ds[i]? = some (d, D) → RDrvAt wr O' i pw d (cutFirst k picks i D)

section
variable {w w1 wr w3 : World} {O O' : Nat → Option Tag} {pw k d : Nat} {picks : List Int} {ds : List (Nat × Drv)} {D : Drv} {P P' : Pow}
theorem RFailRel.next (q1 : ∀ b, b < w1.heap.size → O' b = O b) (q2 : Kept (NotDrive O) w1 wr) (q4 : ∀ b t, w1.heap.size ≤ b → O' b = some t → t.drive ≠ none)
    (q5 : ∀ (i : Nat) d D, ds[i]? = some (d, D) → RDrvAt wr O' i pw d (cutFirst k picks i D)) (hi : ds[k]? = some (d, D)) (h : RCutDone wr O' k pw d D picks w3) : RFailRel w1 O pw picks ds (k + 1) w3 := by
  obtain ⟨O2, r1, r2, r3, r4, r5⟩ := h
  refine ⟨O2, fun b hb => (r3 b (Nat.lt_of_lt_of_le hb q2.size)).trans (q1 b hb), ⟨r2.os.trans q2.os, r2.tape.trans q2.tape, r2.output.trans q2.output, Nat.le_trans q2.size r2.size, fun b hb hn => ?_⟩, r4, fun b t hb ht => ?_, fun i d' D' hi' => ?_⟩
  · exact (r2.block b (Nat.lt_of_lt_of_le hb q2.size) (fun e => by rw [q1 b hb] at e; have := hn _ e; cases this)).trans (q2.block b hb hn)
  · by_cases hlt : b < wr.heap.size
    · rw [r3 b hlt] at ht
      exact q4 b t hb ht
    · rw [r5 b t (by omega) ht]
      intro e
      cases e
  · by_cases e : i = k
    · subst e
      rw [hi] at hi'
      cases hi'
      unfold cutFirst
      rw [if_pos (by omega)]
      exact r1
    · have h2 := q5 i d' D' hi'
      have e2 : cutFirst (k + 1) picks i D' = cutFirst k picks i D' := by
        unfold cutFirst
        by_cases hlt : i < k
        · rw [if_pos hlt, if_pos (by omega)]
        · rw [if_neg hlt, if_neg (by omega)]
      rw [e2]
      refine h2.keep (T := fun t => t.drive = some i) (fun b t hb ht hT => ⟨r2.block b hb (fun e' => ?_), (r3 b hb).trans ht⟩) (fun _ h => h)
      rw [ht] at e'
      cases e'
      cases hT
      exact e rfl
/-- all drives are cut, the power is off -/
theorem RFailRel.fin (h : RSysAt w O pw P ds) (hk : Kept (fun b => b ≠ pw) w w1)
    (hc : ∀ dv x, Cells w pw 32 [.bool P.off, .int .i64 (P.left : Int), x, .int .i64 (P.writes : Int), dv] → Cells w1 pw 32 [.bool P'.off, .int .i64 (P'.left : Int), x, .int .i64 (P'.writes : Int), dv]) (hl : P'.left = 0)
    (hr : RFailRel w1 O pw picks ds ds.length wr) : ∃ O', RSysAt wr O' pw P' (ds.map fun x => (x.1, x.2.cut picks)) ∧ Ext w O wr O' := by
  obtain ⟨O', q1, q2, q3, q4, q5⟩ := hr
  obtain ⟨dv, A, n, c, h1, h2, h3, h4, h5⟩ := h.pow
  have ht : ∀ b t, O b = some t → t ≠ .pw → b ≠ pw := fun b t hb n e => n (by rw [e, h2] at hb; cases hb; rfl)
  refine ⟨O', ⟨q3, fun i d D hi => ?_, ?_⟩, ⟨q2.os.trans hk.os, q2.tape.trans hk.tape, q2.output.trans hk.output, Nat.le_trans hk.size q2.size, fun b hb hO => ?_⟩, fun b hb => q1 b (Nat.lt_of_lt_of_le hb hk.size)⟩
  · rw [List.getElem?_map] at hi
    rcases hx : ds[i]? with _ | ⟨d0, D0⟩
    · rw [hx] at hi; cases hi
    · rw [hx] at hi
      cases hi
      have h9 := q5 i d0 D0 hx
      have e : cutFirst ds.length picks i D0 = D0.cut picks := by
        unfold cutFirst
        rw [if_pos (List.getElem?_eq_some_iff.1 hx).1]
      rw [e] at h9
      exact ⟨h9, (h.drv i d0 D0 hx).2.cut _⟩
  · rw [List.map_map]
    have hpl := h1.lt
    have k1 := hc _ _ h1
    have nd : ∀ b t, O b = some t → t.drive = none → NotDrive O b := fun b t hb hd t' ht' => by rw [hb] at ht'; cases ht'; exact hd
    refine ⟨dv, A, n, c, k1.move (q2.block pw k1.lt (nd _ _ h2 rfl)), (q1 pw k1.lt).trans h2, ?_, fun g hg => (q1 g (Nat.lt_of_lt_of_le (h3.ge g hg).2 hk.size)).trans (h4 g hg), fun hne => absurd hl hne⟩
    exact h3.move fun g hg => (q2.block g (Nat.lt_of_lt_of_le (h3.ge g hg).2 hk.size) (nd _ _ (h4 g hg) rfl)).trans (hk.block g (h3.ge g hg).2 (ht g _ (h4 g hg) (by intro e; cases e)))
  · exact (q2.block b (Nat.lt_of_lt_of_le hb hk.size) (fun t ht' => by rw [hO] at ht'; cases ht')).trans (hk.block b hb (fun e => by rw [e, h2] at hO; cases hO))
end
end Go.Proofs.Ytdnlikhfemhmeaa
