/-
  The second saying's drives and power in memory.
-/
import Derived.Test.YtdnlikhfemhmeaaZRot
namespace Go.Proofs.Ytdnlikhfemhmeaa
open Go.RowKit

def refV (d : Nat) : Value := .pointer (some ⟨d, 0, none⟩)
def RDrvAt (w : World) (O : Nat → Option Tag) (i pw d : Nat) (D : Drv) : Prop :=
  ∃ (g : Nat) (cs : List Value), Cells w d 75 [.pointer (some ⟨pw, 0, none⟩), .int .i64 (D.cap : Int), .int .i64 (D.size : Int), .slice (some ⟨g, 0, none⟩) D.piles.length D.piles.length, .bool D.lost] ∧ O d = some (.drv i) ∧
    Cells w g 93 cs ∧ O g = some (.piles i) ∧ cs.length = D.piles.length * 2 ∧ ∀ (z : Nat) p, D.piles[z]? = some p → PileAt w O i z cs p
def RPowAt (w : World) (O : Nat → Option Tag) (pw : Nat) (P : Pow) (dl : List Nat) : Prop :=
  ∃ (dv : Value) (A : Option Addr) (n c : Nat), Cells w pw 32 [.bool P.off, .int .i64 (P.left : Int), .slice A n c, .int .i64 (P.writes : Int), dv] ∧ O pw = some .pw ∧
    OwnV w 0 40 dv (dl.map refV) ∧ (∀ g, dv.ownBlock = some g → O g = some .dev) ∧
    (P.left ≠ 0 → n = P.picks.length ∧ RI w w.heap.size A P.picks ∧ P.picks.length ≤ c ∧ P.picks.length ≤ 1099511627776 ∧ ∀ ad, A = some ad → O ad.block = some .picks)
structure RSysAt (w : World) (O : Nat → Option Tag) (pw : Nat) (P : Pow) (ds : List (Nat × Drv)) : Prop where
  fresh : ∀ b, O b ≠ none → b < w.heap.size
  drv : ∀ (i : Nat) d D, ds[i]? = some (d, D) → RDrvAt w O i pw d D ∧ D.Ok
  pow : RPowAt w O pw P (ds.map (·.1))
def RSysPost (w : World) (O : Nat → Option Tag) (pw : Nat) (P' : Pow) (ds' : List (Nat × Drv)) (v : Value) (e : Ending) (w' : World) : Prop :=
  ∃ O', e = .returned v ∧ RSysAt w' O' pw P' ds' ∧ Ext w O w' O'

section
variable {w w' : World} {O O' : Nat → Option Tag} {T : Tag → Prop} {i d pw : Nat} {P P' : Pow} {D D' : Drv} {ds : List (Nat × Drv)} {dl : List Nat}
theorem RDrvAt.keep (h : RDrvAt w O i pw d D) (ha : Agree T w O w' O') (hT : ∀ t : Tag, t.drive = some i → T t) : RDrvAt w' O' i pw d D := by
  obtain ⟨g, cs, h1, h2, h3, h4, h5, h6⟩ := h
  obtain ⟨a1, a2⟩ := ha d _ h1.lt h2 (hT _ rfl)
  obtain ⟨b1, b2⟩ := ha g _ h3.lt h4 (hT _ rfl)
  exact ⟨g, cs, h1.move a1, a2, h3.move b1, b2, h5, fun z p hz => (h6 z p hz).keep ha (hT _ rfl) (fun k => hT _ rfl)⟩
theorem RDrvAt.kept {K : Nat → Prop} (h : RDrvAt w O i pw d D) (hk : Kept K w w') (hK : ∀ b t, O b = some t → t.drive = some i → K b) : RDrvAt w' O i pw d D :=
  h.keep (T := fun t => t.drive = some i) (fun b t hlt hb ht => ⟨hk.block b hlt (hK b t hb ht), hb⟩) (fun _ h => h)
theorem RDrvAt.drewN (h : RDrvAt w O i pw d D) (q : Nat) : RDrvAt (w.drewN q) O i pw d D := h
theorem RPowAt.keep (h : RPowAt w O pw P dl) (hf : ∀ b, O b ≠ none → b < w.heap.size) (hs : w.heap.size ≤ w'.heap.size) (ha : Agree T w O w' O') (hT : ∀ t : Tag, t.drive = none → T t) : RPowAt w' O' pw P dl := by
  obtain ⟨dv, A, n, c, h1, h2, h3, h4, h5⟩ := h
  obtain ⟨a1, a2⟩ := ha pw _ h1.lt h2 (hT _ rfl)
  refine ⟨dv, A, n, c, h1.move a1, a2, h3.move fun g hg => (ha g _ (h3.ge g hg).2 (h4 g hg) (hT _ rfl)).1, fun g hg => (ha g _ (h3.ge g hg).2 (h4 g hg) (hT _ rfl)).2, fun hl => ?_⟩
  obtain ⟨q1, q2, q3, q4, q5⟩ := h5 hl
  refine ⟨q1, ?_, q3, q4, fun ad he => (ha _ _ (hf _ (by rw [q5 ad he]; simp)) (q5 ad he) (hT _ rfl)).2⟩
  intro k x hx
  obtain ⟨ad, e, hlt, hc⟩ := q2 k x hx
  exact ⟨ad, e, by omega, (World.cell?_of_block (w := w) (by rw [add_block]; exact (ha _ _ hlt (q5 ad e) (hT _ rfl)).1)).trans hc⟩
theorem RSysAt.kept (h : RSysAt w O pw P ds) (hk : Kept (fun b => O b ≠ none) w w') : RSysAt w' O pw P ds := by
  have ha : Agree (fun _ => True) w O w' O := hk.agree fun b t hb _ => by rw [hb]; simp
  exact ⟨fun b hb => Nat.lt_of_lt_of_le (h.fresh b hb) hk.size, fun i d D hi => ⟨(h.drv i d D hi).1.keep ha (fun _ _ => trivial), (h.drv i d D hi).2⟩, h.pow.keep h.fresh hk.size ha (fun _ _ => trivial)⟩
theorem RSysAt.drewN (h : RSysAt w O pw P ds) (n : Nat) : RSysAt (w.drewN n) O pw P ds := h.kept ((Kept.refl _ w).drewN n)
theorem RSysAt.change {K : Nat → Prop} (h : RSysAt w O pw P ds) (hi : ds[i]? = some (d, D)) (hk : Kept K w w')
    (hK : ∀ b t, O b = some t → t.drive ≠ some i → K b) (hN : ∀ b, O b = none → K b) (hO : ∀ b, b < w.heap.size → O' b = O b) (hf : ∀ b, O' b ≠ none → b < w'.heap.size) (hD : RDrvAt w' O' i pw d D') (hok : D'.Ok) :
    RSysAt w' O' pw P (ds.set i (d, D')) ∧ Ext w O w' O' := by
  have hag : Agree (fun t => t.drive ≠ some i) w O w' O' := fun b t hlt hb ht => ⟨hk.block b hlt (hK b t hb ht), (hO b hlt).trans hb⟩
  have hil := (List.getElem?_eq_some_iff.1 hi).1
  refine ⟨⟨hf, fun j e E hj => ?_, ?_⟩, hk.mono (fun b _ hb => hN b hb), hO⟩
  · by_cases hji : j = i
    · subst hji
      rw [List.getElem?_set_self hil] at hj
      cases hj
      exact ⟨hD, hok⟩
    · rw [List.getElem?_set_ne (fun e => hji e.symm)] at hj
      exact ⟨(h.drv j e E hj).1.keep hag (fun t ht => by rw [ht]; intro e; cases e; exact hji rfl), (h.drv j e E hj).2⟩
  · have hm : (ds.set i (d, D')).map (·.1) = ds.map (·.1) := by
      rw [List.map_set]
      apply set_same
      simp [hi]
    rw [hm]
    exact h.pow.keep h.fresh hk.size hag (fun t ht => by rw [ht]; intro e; cases e)
/-- the numbers of the power are another ones; its picks stay, or count no more -/
theorem RSysAt.pow_set (h : RSysAt w O pw P ds) (hk : Kept (fun b => b ≠ pw) w w')
    (hc : ∀ dv x, Cells w pw 32 [.bool P.off, .int .i64 (P.left : Int), x, .int .i64 (P.writes : Int), dv] → Cells w' pw 32 [.bool P'.off, .int .i64 (P'.left : Int), x, .int .i64 (P'.writes : Int), dv]) (hp : P'.left ≠ 0 → P.left ≠ 0 ∧ P'.picks = P.picks) :
    RSysAt w' O pw P' ds ∧ Ext w O w' O := by
  obtain ⟨dv, A, n, c, h1, h2, h3, h4, h5⟩ := h.pow
  have ht : ∀ b t, O b = some t → t ≠ .pw → b ≠ pw := fun b t hb n e => n (by rw [e, h2] at hb; cases hb; rfl)
  refine ⟨⟨fun b hb => Nat.lt_of_lt_of_le (h.fresh b hb) hk.size, fun i d D hi => ⟨(h.drv i d D hi).1.kept hk (fun b t hb hd => ht b t hb (by intro e; subst e; cases hd)), (h.drv i d D hi).2⟩, ?_⟩, hk.mono (fun b _ hb e => by rw [e, h2] at hb; cases hb), fun _ _ => rfl⟩
  refine ⟨dv, A, n, c, hc _ _ h1, h2, h3.move fun g hg => hk.block g (h3.ge g hg).2 (ht g _ (h4 g hg) (by intro e; cases e)), h4, fun hl => ?_⟩
  obtain ⟨e1, e2⟩ := hp hl
  obtain ⟨q1, q2, q3, q4, q5⟩ := h5 e1
  rw [e2]
  exact ⟨q1, (q2.kept hk (fun ad he => ht _ _ (q5 ad he) (by intro e; cases e)) (Nat.le_refl _)).wide hk.size, q3, q4, q5⟩
end

section
set_option maxRecDepth 20000
theorem up_any (pw d : Nat) (off lost : Bool) (w : World) (h0 : w.cell? ⟨d, 0, none⟩ = some (.pointer (some ⟨pw, 0, none⟩))) (h1 : w.cell? ⟨pw, 0, none⟩ = some (.bool off)) (h4 : w.cell? ⟨d, 4, none⟩ = some (.bool lost)) :
    Calls Try.prog 42 #[.pointer (some ⟨d, 0, none⟩)] w fun e w' => e = .returned (.int .i64 (readyCode off lost : Nat)) ∧ w = w' := by
  cases off <;> cases lost
  all_goals
    go_enter Try.func42, Try.ntmps42
    go_wp2_with fail
    go_ret
    exact ⟨rfl, rfl⟩
theorem is_any (d g N : Nat) (z : Int) (w : World) (h1 : w.cell? ⟨d, 3, none⟩ = some (.slice (some ⟨g, 0, none⟩) N N)) :
    Calls Try.prog 43 #[.pointer (some ⟨d, 0, none⟩), .int .i64 z] w fun e w' => e = .returned (.bool (decide (0 ≤ z ∧ z < (N : Int)))) ∧ w = w' := by
  by_cases hk : 0 ≤ z
  · have e : (decide (0 ≤ z ∧ z < (N : Int))) = decide (z < (N : Int)) := by simp [hk]
    rw [e]
    clear e
    go_enter Try.func43, Try.ntmps43
    go_wp2_with fail
    all_goals
      go_ret
      exact ⟨rfl, rfl⟩
  · have e : (decide (0 ≤ z ∧ z < (N : Int))) = false := by simp; omega
    rw [e]
    have hk' : z < 0 := by omega
    clear e hk
    go_enter Try.func43, Try.ntmps43
    go_wp2_with fail
    all_goals
      go_ret
      exact ⟨rfl, rfl⟩
end
end Go.Proofs.Ytdnlikhfemhmeaa
