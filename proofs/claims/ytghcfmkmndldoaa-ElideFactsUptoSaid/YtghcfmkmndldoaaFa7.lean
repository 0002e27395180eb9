/-
  both: two lists of facts as one.
-/
import Derived.Test.YtghcfmkmndldoaaFa4
namespace Go.Proofs.Ytghcfmkmndldoaa
open Go.RowKit Go.Sort Go.Lib

def lenS : Value → Nat | .slice _ n _ => n | _ => 0
theorem one_slice (A : Option Addr) (n c : Nat) : (Value.slice A n c).oneCell' = true := rfl
/-- a list without its first -/
theorem tail_run (b o n c : Nat) (h1 : 1 ≤ n) (h2 : n ≤ c) : ∃ A' : Option Addr, (∀ W : World, (Instr.sliceAt 46 (.slice (some ⟨b, o, none⟩) n c) (some (.int .i64 1)) none none).run Try.prog W = .ok (.slice A' (n - 1) (c - 1)) W) ∧ (1 < c → A' = some ⟨b, o + 3, none⟩) ∧ A' ≠ none := by
  have h3 : (1 : Int) ≤ (n : Int) := by omega
  by_cases h5 : 1 < c
  · refine ⟨some ⟨b, o + 3, none⟩, fun W => ?_, fun _ => rfl, by simp⟩
    have h4 : ¬ 1 = c := by omega
    simp [go_sem, h3, h4, sliced, Addr.add]
    omega
  · refine ⟨some ⟨b, o, none⟩, fun W => ?_, fun h => absurd h h5, by simp⟩
    have h4 : c = 1 := by omega
    have h6 : n = 1 := by omega
    subst h4
    subst h6
    simp [go_sem, sliced]
/-- make([]api.Fact, 0, n) -/
theorem make_facts (n : Nat) (hn : n ≤ 1099511627776) : ∃ cs : Array Value, (∀ (u : World) (base : Nat), base ≤ u.heap.size → (u.alloc (.cells cs 50)).ownsRow base 50 3 (.slice (some ⟨u.heap.size, 0, none⟩) 0 n) 0 []) ∧
    ∀ u : World, (Instr.makeSlice 46 (.int .i64 0) (.int .i64 (n : Int))).run Try.prog u = .ok (.slice (some ⟨u.heap.size, 0, none⟩) 0 n) (u.alloc (.cells cs 50)) := by
  obtain ⟨i0, hi, hz0, hz1, hz2⟩ := info_parts info_fact
  refine ⟨madeCells (Value.agg #[.string ⟨#[]⟩, .int .u64 0, .slice none 0 0]).cells (n * 3), fun u base hb => World.ownsRow_made u _ n hb (by simp only [maxLen]; omega) (by rw [size_madeCells]), fun u => ?_⟩
  have h := run_make (P := Try.prog) u 46 50 i0 _ Try.underlying46 hi hz0 .i64 .i64 0 (n : Int) (by omega) (by omega) (by rw [hz2]; omega) (by omega)
  rw [h]
  simp only [Int.toNat_natCast, hz1]
  rfl
section
variable {w w' : World} {B B' base : Nat} {A : Option Addr} {V v : Value} {ps qs : List (Fc × Value)} {fs gs : List Fc} {S : Value → List UInt8 → Prop}
/-- append(v, qs...) at an operation of a walk -/
theorem app_facts {ops : Array Oper} {rest : List Oper} {o : Oper} {a : Act} {Q : Exit → Act → World → Prop} (hgd : o.guard = none) (s x : Operand)
    (ho : o.op = .call { callee := .builtin .append, args := #[s, x], argTypes := #[46, 46] })
    (hs : a.eval s = v) (hown : w.ownsRow base 50 3 v ps.length (cellsF ps)) (m c : Nat) (hx : a.eval x = .slice A m c) (hm : m = qs.length) (hr : RP w B A qs) (h1 : ∀ p ∈ qs, p.2.oneCell' = true) (hlen : ps.length + qs.length ≤ 1099511627776) (hbase : base ≤ w.heap.size)
    (h : ∀ v' w', w'.ownsRow base 50 3 v' (ps ++ qs).length (cellsF (ps ++ qs)) → w.grownBy w' v.ownBlock → (v'.ownBlock = v.ownBlock ∨ v'.ownBlock = some w.heap.size) → wpList Try.prog ops Q rest (a.put o.dst v') w') :
    wpList Try.prog ops Q (o :: rest) a w := by
  subst hm
  refine wpList_plain hgd fun K hK => ?_
  obtain ⟨v', w', hrun, h2, h3, h5⟩ := app_facts_run o.type hown hr c h1 hlen hbase
  unfold Oper.wp execOp
  simp only [ho, resolve, invoke, builtin, Sem.run_bind, Sem.run_pure, Result.andThen_ok, List.map_toArray, List.map_cons, List.map_nil, hs, hx]
  rw [show (Builtin.append_ #[46, 46] o.type #[v, .slice A qs.length c]).run Try.prog w = .ok v' w' from hrun]
  exact hK _ _ (h v' w' h2 h3 h5)
/-- append(v, qs...) at a step of a region that draws its order -/
theorem step_app_facts {ops : Array Oper} {K : Act → World → Prop} {E : Prop} {o : Oper} {a : Act} {Q : Exit → Act → World → Prop} (hgd : o.guard = none) (s x : Operand)
    (ho : o.op = .call { callee := .builtin .append, args := #[s, x], argTypes := #[46, 46] })
    (hs : a.eval s = v) (hown : w.ownsRow base 50 3 v ps.length (cellsF ps)) (m c : Nat) (hx : a.eval x = .slice A m c) (hm : m = qs.length) (hr : RP w B A qs) (h1 : ∀ p ∈ qs, p.2.oneCell' = true) (hlen : ps.length + qs.length ≤ 1099511627776) (hbase : base ≤ w.heap.size)
    (h : ∀ v' w', w'.ownsRow base 50 3 v' (ps ++ qs).length (cellsF (ps ++ qs)) → w.grownBy w' v.ownBlock → (v'.ownBlock = v.ownBlock ∨ v'.ownBlock = some w.heap.size) → K (a.put o.dst v') w') :
    if Region.wanted o (yielded ops a.tmps) = true then Oper.wp Try.prog o a w K Q else E := by
  subst hm
  have hw : Region.wanted o (yielded ops a.tmps) = true := by simp [Region.wanted, hgd]
  rw [if_pos hw]
  obtain ⟨v', w', hrun, h2, h3, h5⟩ := app_facts_run o.type hown hr c h1 hlen hbase
  unfold Oper.wp execOp
  simp only [ho, resolve, invoke, builtin, Sem.run_bind, Sem.run_pure, Result.andThen_ok, List.map_toArray, List.map_cons, List.map_nil, hs, hx]
  rw [show (Builtin.append_ #[46, 46] o.type #[v, .slice A qs.length c]).run Try.prog w = .ok v' w' from hrun]
  exact h v' w' h2 h3 h5
/-- a fact alone, in a block made just now -/
theorem RP.one (w : World) (f : Fc) (V : Value) : RP (w.alloc (.cells #[.string f.1, .int .u64 (f.2.1 : Int), V] 50)) (w.heap.size + 1) (some ⟨w.heap.size, 0, none⟩) [(f, V)] := fun k p hk => by
  have hk0 : k = 0 := by
    have := (List.getElem?_eq_some_iff.1 hk).1
    simp at this
    exact this
  subst hk0
  have e : p = (f, V) := by simpa using hk.symm
  subst e
  have hc := Cells.new w #[.string f.1, .int .u64 (f.2.1 : Int), V] 50
  exact ⟨_, 0, rfl, Nat.lt_succ_self _, hc.cell (i := 0) rfl, hc.cell (i := 1) rfl, hc.cell (i := 2) rfl⟩
theorem ownF_shape {n : Nat} {cs : List Value} (h : w.ownsRow base 50 3 v n cs) : ∃ A c, v = .slice A n c ∧ n ≤ c ∧ (A = none → c = 0) ∧ ∀ ad, A = some ad → base ≤ ad.block := by
  rcases h.2 with ⟨rfl, h0⟩ | ⟨g, cap, cur, rfl, hb, hg, hn, _⟩
  · exact ⟨none, 0, by rw [h0], by omega, fun _ => rfl, fun ad e => by cases e⟩
  · exact ⟨_, _, rfl, hn, fun e => by (cases e), fun ad e => by cases e; exact hb⟩
/-- an owned slice of facts: its form -/
theorem RowF.shape (h : RowF w base v fs S) : ∃ A c, v = .slice A fs.length c ∧ fs.length ≤ c ∧ (A = none → c = 0) := by
  obtain ⟨ps, e, ho, _⟩ := h
  obtain ⟨A, c, e1, h1, h2, _⟩ := ownF_shape ho
  have : fs.length = ps.length := by rw [← e, List.length_map]
  exact ⟨A, c, by rw [this]; exact e1, by rw [this]; exact h1, h2⟩
theorem RowF.snoc {f : Fc} (e : ps.map Prod.fst = fs) (hv : VS S ps) (hS : S V f.2.2) (hf : f.2.1 < two64) (ho : w'.ownsRow base 50 3 v (ps ++ [(f, V)]).length (cellsF (ps ++ [(f, V)]))) : RowF w' base v (fs ++ [f]) S :=
  ⟨ps ++ [(f, V)], by rw [List.map_append, e]; rfl, ho, hv.append fun p hp => by
    have : p = (f, V) := by simpa using hp
    subst this
    exact ⟨hS, hf⟩⟩
/-- append(v, facts of a slice that reads as gs) -/
theorem app_row {w0 : World} {ops : Array Oper} {rest : List Oper} {o : Oper} {a : Act} {Q : Exit → Act → World → Prop} (hgd : o.guard = none) (s x : Operand)
    (ho : o.op = .call { callee := .builtin .append, args := #[s, x], argTypes := #[46, 46] })
    (hs : a.eval s = v) (hrow : RowF w base v fs (Vb w0 B)) (hq : RF w0 B A gs) (hbel : Below B w0 w) (m c : Nat) (hx : a.eval x = .slice A m c) (hm : m = gs.length) (hlen : fs.length + gs.length ≤ 1099511627776) (hbase : base ≤ w.heap.size)
    (h : ∀ v' w', RowF w' base v' (fs ++ gs) (Vb w0 B) → Below base w w' → wpList Try.prog ops Q rest (a.put o.dst v') w') :
    wpList Try.prog ops Q (o :: rest) a w := by
  obtain ⟨ps, e1, h1, h2⟩ := hrow
  obtain ⟨qs, e2, h3, h4⟩ := hq
  have l1 : fs.length = ps.length := by rw [← e1, List.length_map]
  have l2 : gs.length = qs.length := by rw [← e2, List.length_map]
  refine app_facts hgd s x ho hs h1 m c hx (by rw [hm, l2]) (h3.below hbel) (fun p hp => (h4 p hp).1.one) (by omega) hbase fun v' w' q1 q2 q3 => h v' w' ⟨ps ++ qs, by rw [List.map_append, e1, e2], q1, h2.append h4⟩ ((Below.refl _ _).grown q2 hbase fun k hk => (World.ownsRow.lt h1 k hk).1)
/-- append(v, one fact) -/
theorem app_row1 {ops : Array Oper} {rest : List Oper} {o : Oper} {a : Act} {Q : Exit → Act → World → Prop} (hgd : o.guard = none) (s x : Operand)
    (ho : o.op = .call { callee := .builtin .append, args := #[s, x], argTypes := #[46, 46] })
    (f : Fc) (hs : a.eval s = v) (hrow : RowF w base v fs S) (hq : RP w B A [(f, V)]) (hS : S V f.2.2) (hf : f.2.1 < two64) (h1 : V.oneCell' = true) (c : Nat) (hx : a.eval x = .slice A 1 c) (hlen : fs.length + 1 ≤ 1099511627776) (hbase : base ≤ w.heap.size)
    (h : ∀ v' w', RowF w' base v' (fs ++ [f]) S → w.grownBy w' v.ownBlock → (v'.ownBlock = v.ownBlock ∨ v'.ownBlock = some w.heap.size) → wpList Try.prog ops Q rest (a.put o.dst v') w') :
    wpList Try.prog ops Q (o :: rest) a w := by
  obtain ⟨ps, e1, h2, h3⟩ := hrow
  have l1 : fs.length = ps.length := by rw [← e1, List.length_map]
  refine app_facts hgd s x ho hs h2 1 c hx rfl hq (fun p hp => by have : p = (f, V) := by simpa using hp
                                                                  subst this; exact h1) (by simp; omega) hbase fun v' w' q1 q2 q3 => h v' w' (RowF.snoc e1 h3 hS hf q1) q2 q3
theorem step_row1 {ops : Array Oper} {K : Act → World → Prop} {E : Prop} {o : Oper} {a : Act} {Q : Exit → Act → World → Prop} (hgd : o.guard = none) (s x : Operand)
    (ho : o.op = .call { callee := .builtin .append, args := #[s, x], argTypes := #[46, 46] })
    (f : Fc) (hs : a.eval s = v) (hrow : RowF w base v fs S) (hq : RP w B A [(f, V)]) (hS : S V f.2.2) (hf : f.2.1 < two64) (h1 : V.oneCell' = true) (c : Nat) (hx : a.eval x = .slice A 1 c) (hlen : fs.length + 1 ≤ 1099511627776) (hbase : base ≤ w.heap.size)
    (h : ∀ v' w', RowF w' base v' (fs ++ [f]) S → w.grownBy w' v.ownBlock → (v'.ownBlock = v.ownBlock ∨ v'.ownBlock = some w.heap.size) → K (a.put o.dst v') w') :
    if Region.wanted o (yielded ops a.tmps) = true then Oper.wp Try.prog o a w K Q else E := by
  obtain ⟨ps, e1, h2, h3⟩ := hrow
  have l1 : fs.length = ps.length := by rw [← e1, List.length_map]
  refine step_app_facts hgd s x ho hs h2 1 c hx rfl hq (fun p hp => by have : p = (f, V) := by simpa using hp
                                                                       subst this; exact h1) (by simp; omega) hbase fun v' w' q1 q2 q3 => h v' w' (RowF.snoc e1 h3 hS hf q1) q2 q3
theorem RowF.grownB (h : RowF w base v fs S) (hg : w.grownBy w' v.ownBlock) (hbase : base ≤ w.heap.size) : Below base w w' := (Below.refl _ _).grown hg hbase fun k hk => (h.ge k hk).1
end
end Go.Proofs.Ytghcfmkmndldoaa
