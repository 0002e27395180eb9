/-
  The second saying's Cut, walked.
-/
import Derived.Test.YtdnlikhfemhmeaaRCut
import Derived.Deep.RegionHeld3
import Derived.BigRegion
import Derived.BigQuiet
namespace Go.Proofs.Ytdnlikhfemhmeaa
open Go.RowKit

/-- where the second saying's cut stands behind some piles -/
def RCutSt (w : World) (O : Nat → Option Tag) (i pw d : Nat) (D : Drv) (picks : List Int) (k a : Nat) (wr : World) : Prop :=
  ∃ (O' : Nat → Option Tag) (done rest : List Pile), done.length = k ∧ done.length + rest.length = D.piles.length ∧ cutPiles D.piles picks = done ++ cutPiles rest (picks.drop a) ∧ ({ D with piles := done ++ rest } : Drv).Ok ∧
    RDrvAt wr O' i pw d { D with piles := done ++ rest } ∧ Kept (fun b => O b ≠ some (.piles i)) w wr ∧ (∀ b, b < w.heap.size → O' b = O b) ∧ (∀ b, O' b ≠ none → b < wr.heap.size) ∧ ∀ b t, w.heap.size ≤ b → O' b = some t → t.drive = some i
def RCutDone (w : World) (O : Nat → Option Tag) (i pw d : Nat) (D : Drv) (picks : List Int) (w' : World) : Prop :=
  ∃ O' : Nat → Option Tag, RDrvAt w' O' i pw d (D.cut picks) ∧ Kept (fun b => O b ≠ some (.piles i)) w w' ∧ (∀ b, b < w.heap.size → O' b = O b) ∧ (∀ b, O' b ≠ none → b < w'.heap.size) ∧ ∀ b t, w.heap.size ≤ b → O' b = some t → t.drive = some i

section
variable {w wr W9 : World} {O O' : Nat → Option Tag} {i pw d g z m c A0 k a cap0 q : Nat} {cs vs : List Value} {D : Drv} {p : Pile} {done rest : List Pile} {picks : List Int} {v9 : Value} {x : Int}
/-- what is known of the world behind the append -/
theorem rcut_app {o : Obj} (ho : o = .cells #[] 46) (hown9 : OwnV W9 wr.heap.size 46 v9 ([] ++ vs.take m)) (hg9 : ((wr.drewN q).alloc o).grownBy W9 (some wr.heap.size)) (hm : m ≤ vs.length) :
    Kept (fun _ => True) wr W9 ∧ OwnV W9 wr.heap.size 46 v9 (vs.take m) ∧ ∃ A9 c9, v9 = .slice A9 m c9 := by
  have hk : Kept (fun _ => True) wr W9 := by
    refine ⟨hg9.os, hg9.tape, hg9.output, Nat.le_trans (by simp [World.drewN]) hg9.size, fun b hb _ => ?_⟩
    rw [hg9.block b (by simp [World.drewN]; omega) (by intro e; cases e; omega)]
    exact Below.heap_alloc (wr.drewN q) o b hb
  refine ⟨hk, by simpa using hown9, ?_⟩
  have h2 : OwnV W9 wr.heap.size 46 v9 (vs.take m) := by simpa using hown9
  obtain ⟨A9, c9, e, _⟩ := h2.rd
  exact ⟨A9, c9, by rw [e, List.length_take]; congr 1; omega⟩
theorem RCutSt.stay (e1 : done.length = k) (e2 : done.length + (p :: rest).length = D.piles.length) (e3 : cutPiles D.piles picks = done ++ cutPiles (p :: rest) (picks.drop a)) (e4 : ({ D with piles := done ++ p :: rest } : Drv).Ok)
    (e5 : RDrvAt wr O' i pw d { D with piles := done ++ p :: rest }) (e6 : Kept (fun b => O b ≠ some (.piles i)) w wr) (e7 : ∀ b, b < w.heap.size → O' b = O b) (e8 : ∀ b, O' b ≠ none → b < wr.heap.size) (e9 : ∀ b t, w.heap.size ≤ b → O' b = some t → t.drive = some i)
    (hp : p.pages.length = p.firm) (q : Nat) : RCutSt w O i pw d D picks (k + 1) a (wr.drewN q) := by
  refine ⟨O', done ++ [p], rest, by simp [e1], by simp at e2 ⊢; omega, ?_, by simpa using e4, ?_, e6.drewN q, e7, e8, e9⟩
  · rw [e3, cutPiles_stay p rest _ hp]
    simp
  · have h : RDrvAt wr O' i pw d { D with piles := (done ++ [p]) ++ rest } := by simpa using e5
    exact h.drewN q
theorem RCutSt.go (e1 : done.length = k) (e2 : done.length + (p :: rest).length = D.piles.length) (e3 : cutPiles D.piles picks = done ++ cutPiles (p :: rest) (picks.drop a)) (e4 : ({ D with piles := done ++ p :: rest } : Drv).Ok)
    (h1 : Cells wr d 75 [.pointer (some ⟨pw, 0, none⟩), .int .i64 (D.cap : Int), .int .i64 (D.size : Int), .slice (some ⟨g, 0, none⟩) (done ++ p :: rest).length (done ++ p :: rest).length, .bool D.lost]) (h2 : O' d = some (.drv i))
    (h3 : Cells wr g 93 cs) (h4 : O' g = some (.piles i)) (h5 : cs.length = (done ++ p :: rest).length * 2) (h6 : ∀ (z : Nat) p', (done ++ p :: rest)[z]? = some p' → PileAt wr O' i z cs p')
    (e6 : Kept (fun b => O b ≠ some (.piles i)) w wr) (e7 : ∀ b, b < w.heap.size → O' b = O b) (e8 : ∀ b, O' b ≠ none → b < wr.heap.size) (e9 : ∀ b t, w.heap.size ≤ b → O' b = some t → t.drive = some i)
    (hp : p.pages.length ≠ p.firm) (hx : x = (picks.drop a).headD 0) (hvl : vs.length = p.pages.length) (hpg : ∀ (j : Nat) l, p.pages[j]? = some l → ∃ u, vs[j]? = some u ∧ PageAt wr O' (.page i k j) u l) (hm : m = p.keep x) (hml : m ≤ p.pages.length)
    (hown : OwnV W9 wr.heap.size 46 v9 (vs.take m)) (hk : Kept (fun _ => True) wr W9) (q : Nat) :
    RCutSt w O i pw d D picks (k + 1) (a + 1) (((W9.setCell ⟨g, k * 2, none⟩ v9).setCell ⟨g, k * 2 + 1, none⟩ (.int .i64 (m : Int))).drewN q) := by
  have hz : (done ++ p :: rest)[k]? = some p := by rw [← e1]; simp
  have es : (done ++ p :: rest).set k (p.cut x) = done ++ p.cut x :: rest := by
    rw [← e1, List.set_append_right _ _ (Nat.le_refl _), Nat.sub_self, List.set_cons_zero]
  have hok := e4.set k p x hz
  simp only [es] at hok
  obtain ⟨O2, r1, r2, r3, r4, r5⟩ := rcut_piece (D := { D with piles := done ++ p :: rest }) h1 h2 h3 h4 h5 h6 e8 hz hvl hpg hm hml hown hk
  simp only [es] at r1
  have r1' : RDrvAt ((W9.setCell ⟨g, k * 2, none⟩ v9).setCell ⟨g, k * 2 + 1, none⟩ (.int .i64 (m : Int))) O2 i pw d { D with piles := (done ++ [p.cut x]) ++ rest } := by simpa using r1
  have kk : Kept (fun b => O b ≠ some (.piles i)) w ((W9.setCell ⟨g, k * 2, none⟩ v9).setCell ⟨g, k * 2 + 1, none⟩ (.int .i64 (m : Int))) := by
    refine ⟨r2.os.trans e6.os, r2.tape.trans e6.tape, r2.output.trans e6.output, Nat.le_trans e6.size r2.size, fun b hb hO => ?_⟩
    exact (r2.block b (Nat.lt_of_lt_of_le hb e6.size) (fun e => hO (by rw [← e7 b hb, e]; exact h4))).trans (e6.block b hb hO)
  refine ⟨O2, done ++ [p.cut x], rest, by simp [e1], by simp at e2 ⊢; omega, ?_, by simpa using hok, r1'.drewN q, kk.drewN q, fun b hb => ?_, r4, fun b t hb ht => ?_⟩
  · rw [e3, cutPiles_go p rest _ hp, ← hx, List.tail_drop]
    simp
  · rw [r3 b (Nat.lt_of_lt_of_le hb e6.size), e7 b hb]
  · by_cases hlt : b < wr.heap.size
    · rw [r3 b hlt] at ht
      exact e9 b t hb ht
    · exact r5 b t (by omega) ht
end
end Go.Proofs.Ytdnlikhfemhmeaa
