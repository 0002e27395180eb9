/-
  Take.
-/
import Derived.Test.YtffmipmkbbholaaAlRoomy
namespace Go.Proofs.Ytffmipmkbbholaa
open Go.RowKit Go.Maps Go.Shelf Go.Lib Go.Sort

def cellsU (us : List (Int × Int)) : List Value := us.flatMap fun u => [.int .i64 u.1, .int .i64 u.2]
theorem cellsU_snoc (us : List (Int × Int)) (u : Int × Int) : cellsU (us ++ [u]) = cellsU us ++ [.int .i64 u.1, .int .i64 u.2] := by simp [cellsU]
theorem cellsU_length (us : List (Int × Int)) : (cellsU us).length = us.length * 2 := by
  induction us with
  | nil => rfl
  | cons u us ih => rw [show cellsU (u :: us) = [.int .i64 u.1, .int .i64 u.2] ++ cellsU us from rfl, List.length_append, ih]; simp; omega
theorem cellsU_get (us : List (Int × Int)) : ∀ (k : Nat) (u : Int × Int), us[k]? = some u → (cellsU us)[k * 2]? = some (.int .i64 u.1) ∧ (cellsU us)[k * 2 + 1]? = some (.int .i64 u.2) := by
  induction us with
  | nil => intro k u h; simp at h
  | cons v us ih =>
    intro k u h
    rw [show cellsU (v :: us) = .int .i64 v.1 :: .int .i64 v.2 :: cellsU us from rfl]
    cases k with
    | zero => simp at h; subst h; exact ⟨rfl, rfl⟩
    | succ k =>
      have := ih k u (by simpa using h)
      rw [show (k + 1) * 2 = k * 2 + 1 + 1 by omega]
      exact this
/-- THE CALL OWNS v, a slice of units, which holds us -/
def OwnU (w : World) (base : Nat) (v : Value) (us : List (Int × Int)) : Prop := w.ownsRow base 24 2 v us.length (cellsU us)
theorem info_unit : (Try.prog.info? 24).map (fun i => (i.zero, i.size, i.bytes)) = some (some (.agg #[.int .i64 0, .int .i64 0]), 2, 16) := by kernel_rfl
section
variable {w w' : World} {base : Nat} {v : Value} {us : List (Int × Int)}
theorem OwnU.nil (w : World) (base : Nat) : OwnU w base (.slice none 0 0) [] := World.ownsRow_nil w base _ _
theorem OwnU.alloc (h : OwnU w base v us) (o : Obj) : OwnU (w.alloc o) base v us := World.ownsRow.alloc h o
theorem OwnU.drewN (h : OwnU w base v us) (n : Nat) : OwnU (w.drewN n) base v us := h
theorem OwnU.ge (h : OwnU w base v us) : ∀ k, v.ownBlock = some k → base ≤ k ∧ k < w.heap.size := fun k hk => World.ownsRow.lt h k hk
theorem OwnU.move (h : OwnU w base v us) (hk : ∀ g, v.ownBlock = some g → w'.heap[g]? = w.heap[g]?) : OwnU w' base v us := by
  refine ⟨h.1, ?_⟩
  rcases h.2 with h | ⟨g, cap, cur, hv, hg, hh, r⟩
  · exact .inl h
  · exact .inr ⟨g, cap, cur, hv, hg, (hk g (by rw [hv]; rfl)).trans hh, r⟩
theorem OwnU.wide {B : Nat} (h : OwnU w base v us) (hb : B ≤ base) : OwnU w B v us := by
  refine ⟨h.1, ?_⟩
  rcases h.2 with h | ⟨g, cap, cur, hv, hg, r⟩
  · exact .inl h
  · exact .inr ⟨g, cap, cur, hv, Nat.le_trans hb hg, r⟩
/-- what an owned slice of units is -/
theorem OwnU.rd (h : OwnU w base v us) : ∃ A c, v = .slice A us.length c ∧ us.length ≤ c ∧ RU w w.heap.size A us ∧ ∀ b o, A = some ⟨b, o, none⟩ → base ≤ b := by
  rcases h.2 with ⟨rfl, h0⟩ | ⟨g, cap, cur, rfl, hb, hg, hn, hm, hs, ht⟩
  · have : us = [] := List.eq_nil_of_length_eq_zero h0
    subst this
    exact ⟨none, 0, rfl, Nat.le_refl _, fun k u hu => by simp at hu, fun b o e => by cases e⟩
  · refine ⟨_, cap, rfl, hn, fun k u hu => ⟨g, 0, rfl, (Array.getElem?_eq_some_iff.1 hg).1, ?_, ?_⟩, fun b o e => by cases e; exact hb⟩
    · have := World.ownsRow.cells (e := 24) (size := 2) h rfl (k * 2) _ (cellsU_get us k u hu).1
      rw [add_flat] at this
      exact this
    · have := World.ownsRow.cells (e := 24) (size := 2) h rfl (k * 2 + 1) _ (cellsU_get us k u hu).2
      rw [add_flat] at this
      exact this
theorem app_unit_run {w : World} (ty : TypeId) (hown : OwnU w base v us) (g c : Nat) (x y : Int) (h0 : w.cell? ⟨g, 0, none⟩ = some (.int .i64 x)) (h1 : w.cell? ⟨g, 1, none⟩ = some (.int .i64 y)) (hlen : us.length + 1 ≤ 1000000) (hbase : base ≤ w.heap.size) :
    ∃ v' w', (Builtin.append_ #[35, 35] ty #[v, .slice (some ⟨g, 0, none⟩) 1 c]).run Try.prog w = .ok v' w' ∧ OwnU w' base v' (us ++ [(x, y)]) ∧ w.grownBy w' v.ownBlock ∧ (v'.ownBlock = v.ownBlock ∨ v'.ownBlock = some w.heap.size) := by
  obtain ⟨i0, hi0, hz0, hz1, hz2⟩ := info_parts info_unit
  obtain ⟨v', w', hrun, r2, r3, _, r5⟩ := run_append_own_at (P := Try.prog) w base 35 ty 24 i0 _ 2 16 Try.underlying35 hi0 hz0 hz1 hz2 rfl (by omega) v us.length (cellsU us) hown ⟨g, 0, none⟩ 1 c [.int .i64 x, .int .i64 y]
    (by simp) (fun j u hj => by
      rw [add_flat, Nat.zero_add]
      match j with
      | 0 => simp at hj; subst hj; exact h0
      | 1 => simp at hj; subst hj; exact h1
      | j + 2 => simp at hj) (by intro u hu; simp at hu; rcases hu with rfl | rfl <;> rfl) (by simp only [maxLen]; omega) (by omega) hbase
  exact ⟨v', w', hrun, by show World.ownsRow _ _ _ _ _ _ _; rw [cellsU_snoc, List.length_append]; exact r2, r3, r5⟩
/-- append(units, u) at an operation of a walk -/
theorem app_unit {w : World} {ops : Array Oper} {rest : List Oper} {o : Oper} {a : Act} {Q : Exit → Act → World → Prop} (hgd : o.guard = none) (s x : Operand)
    (ho : o.op = .call { callee := .builtin .append, args := #[s, x], argTypes := #[35, 35] })
    (hs : a.eval s = v) (hown : OwnU w base v us) (g c : Nat) (p q : Int) (hx : a.eval x = .slice (some ⟨g, 0, none⟩) 1 c) (h0 : w.cell? ⟨g, 0, none⟩ = some (.int .i64 p)) (h1 : w.cell? ⟨g, 1, none⟩ = some (.int .i64 q)) (hlen : us.length + 1 ≤ 1000000) (hbase : base ≤ w.heap.size)
    (h : ∀ v' w', OwnU w' base v' (us ++ [(p, q)]) → w.grownBy w' v.ownBlock → (v'.ownBlock = v.ownBlock ∨ v'.ownBlock = some w.heap.size) → wpList Try.prog ops Q rest (a.put o.dst v') w') :
    wpList Try.prog ops Q (o :: rest) a w := by
  refine wpList_plain hgd fun K hK => ?_
  obtain ⟨v', w', hrun, h2, h3, h5⟩ := app_unit_run o.type hown g c p q h0 h1 hlen hbase
  unfold Oper.wp execOp
  simp only [ho, resolve, invoke, builtin, Sem.run_bind, Sem.run_pure, Result.andThen_ok, List.map_toArray, List.map_cons, List.map_nil, hs, hx]
  rw [show (Builtin.append_ #[35, 35] o.type #[v, .slice (some ⟨g, 0, none⟩) 1 c]).run Try.prog w = .ok v' w' from hrun]
  exact hK _ _ (h v' w' h2 h3 h5)
end

/-- the lowest free units of several drives are taken -/
def takeAll (g : St) (Z : Nat) : List Nat → St
  | [] => g
  | d :: L => takeAll (takeU g Z d) Z L
theorem takeAll_snoc (Z d : Nat) : ∀ (L : List Nat) (g : St), takeAll g Z (L ++ [d]) = takeU (takeAll g Z L) Z d
  | [], _ => rfl
  | _ :: L, g => takeAll_snoc Z d L _
theorem takeAll_row (Z d : Nat) : ∀ (L : List Nat) (g : St), d ∉ L → takeAll g Z L d = g d
  | [], _, _ => rfl
  | e :: L, g, h => by
    have h' : d ≠ e ∧ d ∉ L := by simpa using h
    show takeAll (takeU g Z e) Z L d = g d
    rw [takeAll_row Z d L _ h'.2]
    exact upd_row g 1 h'.1
/-- the units that are taken -/
def tookU (g : St) (Z : Nat) (L : List Nat) : List (Int × Int) := L.map fun (d : Nat) => ((d : Int), ((low (g d) Z : Nat) : Int))
/-- WHAT Take DOES -/
def Took (g : St) (D Z : Nat) (n : Int) (wo : List Int) (us : List (Int × Int)) (e : Int) (g' : St) : Prop :=
  (¬ (1 ≤ n ∧ n ≤ 32) ∧ us = [] ∧ e = 1 ∧ g' = g) ∨
  ((1 ≤ n ∧ n ≤ 32) ∧ ∃ M, M.Perm (roomyL g Z wo D) ∧ Asc (frF g D Z) M ∧
    (((M.length : Int) < n ∧ us = [] ∧ e = 5 ∧ g' = g) ∨
     (n ≤ (M.length : Int) ∧ ∃ L : List Nat, (L.map fun (d : Nat) => (d : Int)).Perm (M.take n.toNat) ∧ L.Pairwise (· < ·) ∧ us = tookU g Z L ∧ e = 0 ∧ g' = takeAll g Z L)))
end Go.Proofs.Ytffmipmkbbholaa
