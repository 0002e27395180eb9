/-
  Facts in memory: slices that read as facts, slices of the call's own.
-/
import Derived.Test.YtghcfmkmndldoaaFa3
import Derived.Test.YtghcfmkmndldoaaClone
namespace Go.Proofs.Ytghcfmkmndldoaa
open Go.RowKit Go.Sort Go.Lib

/-- V is a slice that reads as x, below block B -/
def Vb (w : World) (B : Nat) (V : Value) (x : List UInt8) : Prop := ∃ A c, V = .slice A x.length c ∧ x.length ≤ c ∧ (A = none → c = 0) ∧ RB w B A x
/-- a fact's cells -/
def cellF (p : Fc × Value) : List Value := [.string p.1.1, .int .u64 (p.1.2.1 : Int), p.2]
def cellsF (ps : List (Fc × Value)) : List Value := ps.flatMap cellF
theorem cellsF_append (ps qs : List (Fc × Value)) : cellsF (ps ++ qs) = cellsF ps ++ cellsF qs := by simp [cellsF]
theorem cellsF_length (ps : List (Fc × Value)) : (cellsF ps).length = ps.length * 3 := by
  induction ps with
  | nil => rfl
  | cons p ps ih => rw [show cellsF (p :: ps) = cellF p ++ cellsF ps from rfl, List.length_append, ih]; simp [cellF]; omega
theorem cellsF_get (ps : List (Fc × Value)) : ∀ (k : Nat) (p : Fc × Value), ps[k]? = some p → (cellsF ps)[k * 3]? = some (.string p.1.1) ∧ (cellsF ps)[k * 3 + 1]? = some (.int .u64 (p.1.2.1 : Int)) ∧ (cellsF ps)[k * 3 + 2]? = some p.2 := by
  induction ps with
  | nil => intro k p h; simp at h
  | cons q ps ih =>
    intro k p h
    rw [show cellsF (q :: ps) = .string q.1.1 :: .int .u64 (q.1.2.1 : Int) :: q.2 :: cellsF ps from rfl]
    cases k with
    | zero => simp at h; subst h; exact ⟨rfl, rfl, rfl⟩
    | succ k =>
      have := ih k p (by simpa using h)
      rw [show (k + 1) * 3 = k * 3 + 1 + 1 + 1 by omega]
      exact this
/-- the other way: each cell is one of some fact's -/
theorem cellsF_at (ps : List (Fc × Value)) {j : Nat} {u : Value} (h : (cellsF ps)[j]? = some u) : ∃ k p, ps[k]? = some p ∧ ((j = k * 3 ∧ u = .string p.1.1) ∨ (j = k * 3 + 1 ∧ u = .int .u64 (p.1.2.1 : Int)) ∨ (j = k * 3 + 2 ∧ u = p.2)) := by
  have hj : j < ps.length * 3 := by rw [← cellsF_length]; exact (List.getElem?_eq_some_iff.1 h).1
  have hk : j / 3 < ps.length := by omega
  refine ⟨j / 3, _, List.getElem?_eq_getElem hk, ?_⟩
  obtain ⟨c0, c1, c2⟩ := cellsF_get ps (j / 3) _ (List.getElem?_eq_getElem hk)
  rcases (by omega : j % 3 = 0 ∨ j % 3 = 1 ∨ j % 3 = 2) with q | q | q
  · left; rw [show j / 3 * 3 = j by omega, h] at c0; exact ⟨by omega, Option.some.inj c0⟩
  · right; left; rw [show j / 3 * 3 + 1 = j by omega, h] at c1; exact ⟨by omega, Option.some.inj c1⟩
  · right; right; rw [show j / 3 * 3 + 2 = j by omega, h] at c2; exact ⟨by omega, Option.some.inj c2⟩
theorem oneF_of {ps : List (Fc × Value)} (h : ∀ p ∈ ps, p.2.oneCell' = true) : ∀ u ∈ cellsF ps, u.oneCell' = true := by
  intro u hu
  obtain ⟨p, hp, hu⟩ := List.mem_flatMap.1 hu
  simp only [cellF, List.mem_cons, List.not_mem_nil, or_false] at hu
  rcases hu with rfl | rfl | rfl
  · rfl
  · rfl
  · exact h p hp
/-- THE SLICE AT A HAS THE CELLS OF ps, below block B -/
def RP (w : World) (B : Nat) (A : Option Addr) (ps : List (Fc × Value)) : Prop :=
  ∀ k p, ps[k]? = some p → ∃ b o, A = some ⟨b, o, none⟩ ∧ b < B ∧ w.cell? ⟨b, o + k * 3, none⟩ = some (.string p.1.1) ∧ w.cell? ⟨b, o + k * 3 + 1, none⟩ = some (.int .u64 (p.1.2.1 : Int)) ∧ w.cell? ⟨b, o + k * 3 + 2, none⟩ = some p.2
/-- each value is what the slice beside it reads as -/
def VS (S : Value → List UInt8 → Prop) (ps : List (Fc × Value)) : Prop := ∀ p ∈ ps, S p.2 p.1.2.2 ∧ p.1.2.1 < two64
/-- THE SLICE AT A READS AS the facts fs, all of it below block B -/
def RF (w : World) (B : Nat) (A : Option Addr) (fs : List Fc) : Prop := ∃ ps, ps.map Prod.fst = fs ∧ RP w B A ps ∧ VS (Vb w B) ps
/-- THE CALL OWNS v, a slice of facts, which holds fs; their values are as S says -/
def RowF (w : World) (base : Nat) (v : Value) (fs : List Fc) (S : Value → List UInt8 → Prop) : Prop :=
  ∃ ps, ps.map Prod.fst = fs ∧ w.ownsRow base 50 3 v ps.length (cellsF ps) ∧ VS S ps
theorem info_fact : (Try.prog.info? 50).map (fun i => (i.zero, i.size, i.bytes)) = some (some (.agg #[.string ⟨#[]⟩, .int .u64 0, .slice none 0 0]), 3, 48) := by kernel_rfl

section
variable {w w' : World} {B B' base : Nat} {A : Option Addr} {V v : Value} {x : List UInt8} {ps qs : List (Fc × Value)} {fs gs : List Fc} {S S' : Value → List UInt8 → Prop}
theorem Vb.one (h : Vb w B V x) : V.oneCell' = true := by obtain ⟨A, c, rfl, _⟩ := h; rfl
theorem Vb.below (h : Vb w B V x) (hb : Below B w w') : Vb w' B V x := by obtain ⟨A, c, e, hc, hA, hr⟩ := h; exact ⟨A, c, e, hc, hA, hr.below hb⟩
theorem Vb.wide (h : Vb w B V x) (hB : B ≤ B') : Vb w B' V x := by obtain ⟨A, c, e, hc, hA, hr⟩ := h; exact ⟨A, c, e, hc, hA, hr.wide hB⟩
theorem Vb.move (h : Vb w B V x) (hk : ∀ p : Addr, p.block < B → w'.cell? p = w.cell? p) : Vb w' B V x := by obtain ⟨A, c, e, hc, hA, hr⟩ := h; exact ⟨A, c, e, hc, hA, hr.move hk (Nat.le_refl _)⟩
theorem Vb.own (h : Own w base V x) : Vb w w.heap.size V x := by obtain ⟨A, c, e, hc, hr, hA⟩ := h.rb; exact ⟨A, c, e, hc, hA, hr⟩
theorem VS.mono (h : VS S ps) (hS : ∀ V x, S V x → S' V x) : VS S' ps := fun p hp => ⟨hS _ _ (h p hp).1, (h p hp).2⟩
theorem VS.append (h : VS S ps) (k : VS S qs) : VS S (ps ++ qs) := fun p hp => by
  rcases List.mem_append.1 hp with hp | hp
  · exact h p hp
  · exact k p hp
theorem RP.below (h : RP w B A ps) (hb : Below B w w') : RP w' B A ps := fun k p hk => by
  obtain ⟨b, o, e, hlt, h0, h1, h2⟩ := h k p hk
  exact ⟨b, o, e, hlt, (hb.cell hlt).trans h0, (hb.cell hlt).trans h1, (hb.cell hlt).trans h2⟩
theorem RP.wide (h : RP w B A ps) (hB : B ≤ B') : RP w B' A ps := fun k p hk => by
  obtain ⟨b, o, e, hlt, h0, h1, h2⟩ := h k p hk
  exact ⟨b, o, e, by omega, h0, h1, h2⟩
theorem RP.cut {b o : Nat} (h : RP w B (some ⟨b, o, none⟩) ps) (n : Nat) : RP w B (some ⟨b, o + n * 3, none⟩) (ps.drop n) := fun k p hk => by
  rw [List.getElem?_drop] at hk
  obtain ⟨b', o', e, hlt, h0, h1, h2⟩ := h _ p hk
  cases e
  rw [show o + (n + k) * 3 = o + n * 3 + k * 3 by omega] at h0 h1 h2
  exact ⟨b, _, rfl, hlt, h0, h1, h2⟩
theorem RP.take (h : RP w B A ps) (n : Nat) : RP w B A (ps.take n) := fun k p hk => by
  rw [List.getElem?_take] at hk
  split at hk
  · exact h k p hk
  · cases hk
theorem RF.nil (w : World) (B : Nat) (A : Option Addr) : RF w B A [] := ⟨[], rfl, fun k p h => by simp at h, fun p h => by simp at h⟩
theorem RF.below (h : RF w B A fs) (hb : Below B w w') : RF w' B A fs := by
  obtain ⟨ps, e, hp, hv⟩ := h
  exact ⟨ps, e, hp.below hb, hv.mono fun _ _ q => q.below hb⟩
theorem RF.wide (h : RF w B A fs) (hB : B ≤ B') : RF w B' A fs := by
  obtain ⟨ps, e, hp, hv⟩ := h
  exact ⟨ps, e, hp.wide hB, hv.mono fun _ _ q => q.wide hB⟩
theorem RF.gr (h : RF w B A fs) (hg : Gr w w') (hB : B ≤ w.heap.size) : RF w' B A fs := h.below (hg.below.mono hB)
theorem RF.now (h : RF w w.heap.size A fs) (hb : Below w.heap.size w w') : RF w' w'.heap.size A fs := (h.below hb).wide hb.size
theorem RF.take (h : RF w B A fs) (n : Nat) : RF w B A (fs.take n) := by
  obtain ⟨ps, e, hp, hv⟩ := h
  exact ⟨ps.take n, by rw [List.map_take, e], hp.take n, fun p h => hv p (List.mem_of_mem_take h)⟩
theorem RF.cut {b o : Nat} (h : RF w B (some ⟨b, o, none⟩) fs) (n : Nat) : RF w B (some ⟨b, o + n * 3, none⟩) (fs.drop n) := by
  obtain ⟨ps, e, hp, hv⟩ := h
  exact ⟨ps.drop n, by rw [List.map_drop, e], hp.cut n, fun p h => hv p (List.mem_of_mem_drop h)⟩
/-- the fact of that place -/
theorem RF.at_ (h : RF w B A fs) {k : Nat} {f : Fc} (hk : fs[k]? = some f) : ∃ b o V, A = some ⟨b, o, none⟩ ∧ b < B ∧ w.cell? ⟨b, o + k * 3, none⟩ = some (.string f.1) ∧ w.cell? ⟨b, o + k * 3 + 1, none⟩ = some (.int .u64 (f.2.1 : Int)) ∧ w.cell? ⟨b, o + k * 3 + 2, none⟩ = some V ∧ Vb w B V f.2.2 ∧ f.2.1 < two64 := by
  obtain ⟨ps, e, hp, hv⟩ := h
  rw [← e, List.getElem?_map, Option.map_eq_some_iff] at hk
  obtain ⟨p, hk, rfl⟩ := hk
  obtain ⟨b, o, rfl, hlt, h0, h1, h2⟩ := hp k p hk
  have := hv p (List.mem_of_getElem? hk)
  exact ⟨b, o, p.2, rfl, hlt, h0, h1, h2, this.1, this.2⟩
theorem RF.flat (h : RF w B A fs) (h0 : 0 < fs.length) : ∃ b o, A = some ⟨b, o, none⟩ ∧ b < B := by
  obtain ⟨b, o, V, e, hlt, _⟩ := h.at_ (List.getElem?_eq_getElem h0)
  exact ⟨b, o, e, hlt⟩
theorem RowF.nil (w : World) (base : Nat) (S : Value → List UInt8 → Prop) : RowF w base (.slice none 0 0) [] S := ⟨[], rfl, World.ownsRow_nil _ _ _ _, fun p h => by simp at h⟩
theorem RowF.mono (h : RowF w base v fs S) (hS : ∀ V x, S V x → S' V x) : RowF w base v fs S' := by
  obtain ⟨ps, e, ho, hv⟩ := h
  exact ⟨ps, e, ho, hv.mono hS⟩
theorem RowF.move (h : RowF w base v fs S) (hk : ∀ g, v.ownBlock = some g → w'.heap[g]? = w.heap[g]?) : RowF w' base v fs S := by
  obtain ⟨ps, e, ho, hv⟩ := h
  refine ⟨ps, e, ⟨ho.1, ?_⟩, hv⟩
  rcases ho.2 with q | ⟨g, cap, cur, hv, hg, hh, r⟩
  · exact .inl q
  · exact .inr ⟨g, cap, cur, hv, hg, (hk g (by rw [hv]; rfl)).trans hh, r⟩
theorem RowF.ge (h : RowF w base v fs S) : ∀ k, v.ownBlock = some k → base ≤ k ∧ k < w.heap.size := by
  obtain ⟨ps, e, ho, hv⟩ := h
  exact fun k hk => World.ownsRow.lt ho k hk
theorem RowF.below (h : RowF w base v fs S) (hb : Below w.heap.size w w') : RowF w' base v fs S := h.move fun g hg => hb.block g (h.ge g hg).2
theorem RowF.wideB (h : RowF w base v fs S) (hb : B ≤ base) : RowF w B v fs S := by
  obtain ⟨ps, e, ho, hv⟩ := h
  refine ⟨ps, e, ⟨ho.1, ?_⟩, hv⟩
  rcases ho.2 with h | ⟨g, cap, cur, hv, hg, r⟩
  · exact .inl h
  · exact .inr ⟨g, cap, cur, hv, Nat.le_trans hb hg, r⟩
/-- what an owned slice of facts is -/
theorem RowF.rd (h : RowF w base v fs S) (hS : ∀ V x, S V x → Vb w w.heap.size V x) : ∃ A c, v = .slice A fs.length c ∧ fs.length ≤ c ∧ (A = none → c = 0) ∧ RF w w.heap.size A fs ∧ ∀ b o, A = some ⟨b, o, none⟩ → base ≤ b := by
  obtain ⟨ps, e, ho, hv⟩ := h
  have hl : fs.length = ps.length := by rw [← e, List.length_map]
  rcases ho.2 with ⟨rfl, h0⟩ | ⟨g, cap, cur, rfl, hb, hg, hn, hm, hs, ht⟩
  · have : ps = [] := List.eq_nil_of_length_eq_zero h0
    subst this
    refine ⟨none, 0, by rw [hl]; rfl, by rw [hl]; exact Nat.le_refl _, fun _ => rfl, ?_, fun b o e => by cases e⟩
    have : fs = [] := by rw [← e]; rfl
    subst this
    exact RF.nil _ _ _
  · refine ⟨_, cap, by rw [hl], by rw [hl]; exact hn, fun e => by (cases e), ⟨ps, e, fun k p hk => ⟨g, 0, rfl, (Array.getElem?_eq_some_iff.1 hg).1, ?_⟩, hv.mono hS⟩, fun b o e => by cases e; exact hb⟩
    obtain ⟨c0, c1, c2⟩ := cellsF_get ps k p hk
    have q0 := World.ownsRow.cells (e := 50) (size := 3) ho rfl (k * 3) _ c0
    have q1 := World.ownsRow.cells (e := 50) (size := 3) ho rfl (k * 3 + 1) _ c1
    have q2 := World.ownsRow.cells (e := 50) (size := 3) ho rfl (k * 3 + 2) _ c2
    rw [add_flat] at q0 q1 q2
    exact ⟨q0, q1, q2⟩
/-- append(v, facts of a slice that reads as qs), as a run -/
theorem app_facts_run (ty : TypeId) (ho : w.ownsRow base 50 3 v ps.length (cellsF ps)) (hr : RP w B A qs) (c : Nat) (h1 : ∀ p ∈ qs, p.2.oneCell' = true) (hlen : ps.length + qs.length ≤ 1099511627776) (hbase : base ≤ w.heap.size) :
    ∃ v' w', (Builtin.append_ #[46, 46] ty #[v, .slice A qs.length c]).run Try.prog w = .ok v' w' ∧ w'.ownsRow base 50 3 v' (ps ++ qs).length (cellsF (ps ++ qs)) ∧ w.grownBy w' v.ownBlock ∧ (v'.ownBlock = v.ownBlock ∨ v'.ownBlock = some w.heap.size) := by
  obtain ⟨i0, hi0, hz0, hz1, hz2⟩ := info_parts info_fact
  by_cases h0 : qs = []
  · subst h0
    refine ⟨v, w, ?_, by rw [List.append_nil]; exact ho, World.grownBy.refl w _, .inl rfl⟩
    rcases ho.2 with ⟨rfl, _⟩ | ⟨g, cap, cur, rfl, _, _, hnc, _⟩
    · cases A <;> simp [Builtin.append_, run_underlying Try.underlying46, sizeOf, typeInfo, hi0, hz1, Builtin.lenOf, Builtin.firstCells, loadCells, loadCellsFrom]
    · cases A <;> simp [Builtin.append_, run_underlying Try.underlying46, sizeOf, typeInfo, hi0, hz1, Builtin.lenOf, Builtin.firstCells, hnc, storeCells, loadCells, loadCellsFrom]
  · obtain ⟨b, o, rfl, _⟩ := hr 0 (qs[0]'(List.length_pos_iff.2 h0)) (List.getElem?_eq_getElem _)
    obtain ⟨v', w', hrun, r2, r3, _, r5⟩ := run_append_own_at (P := Try.prog) w base 46 ty 50 i0 _ 3 48 Try.underlying46 hi0 hz0 hz1 hz2 rfl (by omega) v ps.length (cellsF ps) ho ⟨b, o, none⟩ qs.length c (cellsF qs)
      (by rw [cellsF_length]) (fun j u hj => by
        rw [add_flat]
        obtain ⟨k, p, hk, q⟩ := cellsF_at qs hj
        obtain ⟨b', o', e, _, c0, c1, c2⟩ := hr k p hk
        cases e
        rcases q with ⟨rfl, rfl⟩ | ⟨rfl, rfl⟩ | ⟨rfl, rfl⟩
        · exact c0
        · exact c1
        · exact c2) (oneF_of h1) (by simp only [maxLen]; omega) (by omega) hbase
    exact ⟨v', w', hrun, by rw [List.length_append, cellsF_append]; exact r2, r3, r5⟩
end
end Go.Proofs.Ytghcfmkmndldoaa
