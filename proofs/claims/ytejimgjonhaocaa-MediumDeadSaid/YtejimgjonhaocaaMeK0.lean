/-
  A range over a function: a round of it, and the statement, where the body ends or returns.
-/
import Derived.Test.YtejimgjonhaocaaMeK1
import Derived.RangeFuncLeaves
import Derived.RangeFuncRecord
import Derived.RangeFuncSeq
import Derived.RangeFuncOwn
namespace Go.Proofs.Ytejimgjonhaocaa
open Go.RowKit

/-- the loop's record -/
def lrec (fn : FuncId) (rt : Array Value) (ps : Array Tmp) (assign body : Code) (D : Nat) (st : LoopState) (pe : Option Code) : Obj :=
  .loop { state := st, pending := pe, fn := fn, tmps := rt, params := ps, assign := assign, body := body, defers := D }
/-- how a round's body ends: off its end, or by a return -/
def roundEnd (l : Nat) (rc : LoopState → Option Code → Obj) (R : Ending → World → Prop) : Exit → Act → World → Prop
  | .normal, _, W => W.heap[l]? = some (rc .busy none) ∧ R (.returned (.bool true)) (W.putObj l (rc .ready none))
  | .ret, _, W => W.heap[l]? = some (rc .busy none) ∧ R (.returned (.bool false)) (W.putObj l (rc .done (some .ret)))
  | _, _, _ => False
section
variable {F : Fence} {m n : Nat} {fn : FuncId} {l D : Nat} {rt : Array Value} {ps : Array Tmp} {assign body : Code} {args : Array Value} {W w : World} {R : Ending → World → Prop}
theorem round_yields (hfn : F.fn fn) (hps : args.size = ps.size) (hl : W.heap[l]? = some (lrec fn rt ps assign body D .ready none))
    (h : assign.wpIn (F.inRound l) m Try.prog (Exit.then (fun a1 w1 => w1.heap[l]? = some (lrec fn rt ps assign body D .ready none) ∧ body.wpIn (F.inRound l) m Try.prog (roundEnd l (lrec fn rt ps assign body D) R) a1 (w1.putObj l (lrec fn rt ps assign body D .busy none))) (fun _ _ _ => False))
      { tmps := (ps.zip args).foldl (fun t (p, v) => t.setIfInBounds p v) rt, defers := [] } W) : YieldAt F m Try.prog l args W R := by
  refine ⟨fn, _, assign, body, run_yield hl hps, roundIn_of_wpIn hfn (wpIn_mono h ?_)⟩
  rintro e a w1 hq
  cases e with
  | normal =>
    obtain ⟨h1, h2⟩ := hq
    refine ⟨_, run_beginRound h1 rfl, wpIn_mono h2 ?_⟩
    rintro e2 a2 w2 hq2
    cases e2 with
    | normal => exact ⟨_, _, run_endRound none hq2.1, hq2.2⟩
    | ret => exact ⟨_, _, run_endRound (some .ret) hq2.1, hq2.2⟩
    | exit id => exact hq2.elim
    | goto t => exact hq2.elim
    | panic c => exact hq2.elim
    | outgrown => exact hq2.elim
  | ret => exact hq.elim
  | exit id => exact hq.elim
  | goto t => exact hq.elim
  | panic c => exact hq.elim
  | outgrown => exact hq.elim
/-- the statement: the record and the block for deferred calls are laid, the function is called with yield; behind it the loop is over, or a round has returned -/
theorem range_wp {g : Operand} {gf : Nat} {lb : Array Value} {a : Act} {Q : Exit → Act → World → Prop} (hro : F.round = none) (hd : F.depth = none) (hg : a.eval g = .func (.func gf) #[] lb) (hFg : F.fn gf)
    (eg : ∀ args w, (callFunc gf args).run Try.prog w = .ok (.enter gf args) w)
    (h : ∀ fn, F.fn fn → CallsIn F n Try.prog gf (#[.func (.yield (w.heap.size + 1)) #[] #[]] ++ lb) ((w.alloc (.deferred (some []))).alloc (lrec fn a.tmps ps assign body w.heap.size .ready none)) fun e W2 => (∃ v, e = .returned v) ∧
      ((W2.heap[w.heap.size + 1]? = some (lrec fn a.tmps ps assign body w.heap.size .ready none) ∧ Q .normal { a with defers := { target := .collected w.heap.size, args := #[] } :: a.defers } (W2.putObj (w.heap.size + 1) (lrec fn a.tmps ps assign body w.heap.size .exhausted none))) ∨
       (W2.heap[w.heap.size + 1]? = some (lrec fn a.tmps ps assign body w.heap.size .done (some .ret)) ∧ Q .ret { a with defers := { target := .collected w.heap.size, args := #[] } :: a.defers } (W2.putObj (w.heap.size + 1) (lrec fn a.tmps ps assign body w.heap.size .exhausted (some .ret)))))) :
    (Code.rangeFunc g ps assign body).wpIn F (n + 1) Try.prog Q a w := by
  refine wpIn_rangeFunc ?_
  intro fn hfn
  rw [hro]
  refine ⟨w.heap.size + 1, [{ target := .collected w.heap.size, args := #[] }], (w.alloc (.deferred (some []))).alloc (lrec fn a.tmps ps assign body w.heap.size .ready none),
    { target := .fn (.func gf) lb, args := #[.func (.yield (w.heap.size + 1)) #[] #[]] }, (w.alloc (.deferred (some []))).alloc (lrec fn a.tmps ps assign body w.heap.size .ready none), gf,
    #[.func (.yield (w.heap.size + 1)) #[] #[]] ++ lb, (w.alloc (.deferred (some []))).alloc (lrec fn a.tmps ps assign body w.heap.size .ready none), run_enterLoop_outer _ _ _ _ _, ?_, ?_, ?_, ?_, ?_⟩
  · simp only [resolve, hg]
    simp [go_sem]
  · intro f' hf'
    simp [Target.leads] at hf'
    subst hf'
    exact hFg
  · simp [invoke, go_sem, eg]
  · intro hs
    rw [hd] at hs
    cases hs
  · refine (h fn hfn).mono ?_
    rintro e W2 ⟨⟨v, rfl⟩, ⟨h1, h2⟩ | ⟨h1, h2⟩⟩
    · exact ⟨none, _, run_endLoop h1 (by simp), h2⟩
    · exact ⟨some .ret, _, run_endLoop h1 (by simp), wpIn_ret h2⟩
end
end Go.Proofs.Ytejimgjonhaocaa
