/-
  AllocOnce: what its loops carry.
-/
import Derived.Test.YtffmipmkbbholaaAlTail
namespace Go.Proofs.Ytffmipmkbbholaa
open Go.RowKit Go.Maps Go.Shelf Go.Lib Go.Sort

/-- the units that have state k, as a map to true -/
def bmap (g : St) (k : Nat) : Um := fun d z => if g d z = k then some (.lit (.bool true)) else none
theorem bmap_same (g : St) (d z k : Nat) : bmap (upd g d z k) k = upd (bmap g k) d z (some (.lit (.bool true))) := by
  funext d' z'
  by_cases q : d' = d ∧ z' = z
  · obtain ⟨rfl, rfl⟩ := q; simp [bmap, upd]
  · simp [bmap, upd_other _ _ q]
theorem bmap_other (g : St) (d z j k : Nat) (h : j ≠ k) : bmap (upd g d z j) k = upd (bmap g k) d z none := by
  funext d' z'
  by_cases q : d' = d ∧ z' = z
  · obtain ⟨rfl, rfl⟩ := q; simp [bmap, upd, h]
  · simp [bmap, upd_other _ _ q]
/-- a unit that has not the state is not in the map -/
theorem bmap_idle (g : St) (d z j k : Nat) (h : j ≠ k) (hg : g d z ≠ k) : bmap (upd g d z j) k = bmap g k := by
  funext d' z'
  by_cases q : d' = d ∧ z' = z
  · obtain ⟨rfl, rfl⟩ := q; simp [bmap, upd, h, hg]
  · simp [bmap, upd_other _ _ q]
theorem bmap_get (g : St) (k d z : Nat) : (bmap g k d z).getD (.lit (.bool false)) = .lit (.bool (decide (g d z = k))) := by
  unfold bmap
  by_cases h : g d z = k <;> simp [h]
/-- its size is the count -/
theorem bmap_tot (g : St) (k D Z : Nat) : tot (isU (bmap g k)) D Z = sumN (fun d => cnt (g d) k Z) D := by
  unfold tot cnt
  refine sumN_congr D fun d _ => cntB_congr Z fun z _ => ?_
  unfold isU bmap
  by_cases h : g d z = k <;> simp [h]
/-- the held ones, counted -/
theorem held_tot {D Z : Nat} (hZ : Z ≤ 4096) : ∀ (us : List (Int × Int)) (g : St), us.Nodup → (∀ u ∈ us, ∃ d z : Nat, d < D ∧ z < Z ∧ u = ((d : Int), (z : Int)) ∧ g d z = 2) →
    tot (isU (bmap g 2)) D Z = us.length + tot (isU (bmap (setAll g 0 us) 2)) D Z
  | [], g, _, _ => by simp [setAll]
  | u :: us, g, hn, hm => by
    obtain ⟨d, z, hd, hz, rfl, hg⟩ := hm u (by simp)
    have hn' := List.nodup_cons.1 hn
    have ih := held_tot hZ us (upd g d z 0) hn'.2 (fun u' hu' => by
      obtain ⟨d', z', h1, h2, h3, h4⟩ := hm u' (by simp [hu'])
      refine ⟨d', z', h1, h2, h3, ?_⟩
      rw [upd_other _ _ (fun q => hn'.1 (by rw [← q.1, ← q.2, ← h3]; exact hu'))]
      exact h4)
    have ht := tot_set (p := isU (bmap g 2)) (q := isU (bmap (upd g d z 0) 2)) (d := d) (z := z) (A := D) (B := Z) (fun d' z' q => by simp only [isU, bmap, upd_other _ _ q]) hd hz
    have e1 : isU (bmap g 2) d z = true := by simp [isU, bmap, hg]
    have e2 : isU (bmap (upd g d z 0) 2) d z = false := by simp [isU, bmap, upd]
    rw [e1, e2] at ht
    simp only [b2n] at ht
    show _ = us.length + 1 + tot (isU (bmap (setAll (upd g (Int.toNat d) (Int.toNat z) 0) 0 us) 2)) D Z
    simp only [Int.toNat_natCast]
    simp at ht
    omega
theorem setAll_at (k : Nat) : ∀ (us : List (Int × Int)) (g : St) (d z : Nat), (∀ u ∈ us, ∃ a b : Nat, u = ((a : Int), (b : Int))) → ((d : Int), (z : Int)) ∉ us → setAll g k us d z = g d z
  | [], _, _, _, _, _ => rfl
  | u :: us, g, d, z, hm, h => by
    obtain ⟨a, b, rfl⟩ := hm u (by simp)
    have h' : ¬ (((d : Int), (z : Int)) = ((a : Int), (b : Int))) ∧ ((d : Int), (z : Int)) ∉ us := by simpa using h
    show setAll (upd g (Int.toNat a) (Int.toNat b) k) k us d z = g d z
    rw [setAll_at k us _ d z (fun u hu => hm u (by simp [hu])) h'.2]
    simp only [Int.toNat_natCast]
    exact upd_other _ _ (fun q => h'.1 (by rw [q.1, q.2]))
theorem setAll_in (k : Nat) : ∀ (us : List (Int × Int)) (g : St) (d z : Nat), us.Nodup → (∀ u ∈ us, ∃ a b : Nat, u = ((a : Int), (b : Int))) → ((d : Int), (z : Int)) ∈ us → setAll g k us d z = k
  | [], _, _, _, _, _, h => by simp at h
  | u :: us, g, d, z, hn, hm, h => by
    obtain ⟨a, b, rfl⟩ := hm u (by simp)
    have hn' := List.nodup_cons.1 hn
    show setAll (upd g (Int.toNat a) (Int.toNat b) k) k us d z = k
    simp only [Int.toNat_natCast]
    by_cases q : ((d : Int), (z : Int)) ∈ us
    · exact setAll_in k us _ d z hn'.2 (fun u hu => hm u (by simp [hu])) q
    · rw [setAll_at k us _ d z (fun u hu => hm u (by simp [hu])) q]
      have e : ((d : Int), (z : Int)) = ((a : Int), (b : Int)) := (List.mem_cons.1 h).resolve_right q
      have e1 : d = a := by have := congrArg Prod.fst e; simp at this; omega
      have e2 : z = b := by have := congrArg Prod.snd e; simp at this; omega
      rw [e1, e2]
      exact upd_same _ _ _ _

theorem takeAll_bmap2 (Z : Nat) : ∀ (L : List Nat) (g : St), L.Nodup → (∀ e ∈ L, 0 < cnt (g e) 0 Z) → bmap (takeAll g Z L) 2 = bmap g 2
  | [], _, _, _ => rfl
  | e :: L, g, hn, hp => by
    have hd := List.nodup_cons.1 hn
    have hlow : low (g e) Z < Z := (low_free (g e) Z).2 (hp e (by simp))
    show bmap (takeAll (takeU g Z e) Z L) 2 = bmap g 2
    rw [takeAll_bmap2 Z L (takeU g Z e) hd.2 (fun e' he' => by
      have : e' ≠ e := fun q => hd.1 (q ▸ he')
      show 0 < cnt (upd g e _ 1 e') 0 Z
      rw [upd_row g 1 this]
      exact hp e' (by simp [he']))]
    exact bmap_idle g e _ 1 2 (by omega) (by rw [low_at _ _ hlow]; omega)
structure OnceSt (w0 wr : World) (base tb db mb cap D Z mM mH : Nat) (g : St) (fM fH : Um) (v : Value) (l : List (Int × Int)) : Prop where
  tab : TabAt wr tb db mb cap D Z g
  mine : UM wr mM 4 fM D Z
  held : UM wr mH 4 fH D Z
  tail : ∃ A c, TailU wr base v l A c
  bel : Below w0.heap.size w0 wr
  base : base ≤ wr.heap.size
/-- the blocks' places -/
structure OnceNe (w0 : World) (base tb db mb mM mH : Nat) : Prop where
  lt : tb < base ∧ db < base ∧ mb < base ∧ mM < base ∧ mH < base
  ge : w0.heap.size ≤ db ∧ w0.heap.size ≤ mb ∧ w0.heap.size ≤ mM ∧ w0.heap.size ≤ mH ∧ w0.heap.size ≤ base
  ne : mM ≠ tb ∧ mM ≠ db ∧ mM ≠ mb ∧ mH ≠ tb ∧ mH ≠ db ∧ mH ≠ mb ∧ mM ≠ mH
section
variable {w0 wr w' : World} {base tb db mb cap D Z mM mH : Nat} {g g' : St} {fM fH fM' fH' : Um} {v v' : Value} {l l' : List (Int × Int)}
theorem TailU.base_le {w : World} {us : List (Int × Int)} {A : Option Addr} {c : Nat} (h : TailU w base v us A c) : ∀ k, A.map (·.block) = some k → base ≤ k := by
  intro k hk
  rcases A with _ | a
  · cases hk
  · cases hk
    exact (h.own a rfl).1
/-- somebody's step that keeps all that a predicate holds -/
theorem OnceSt.by (h : OnceSt w0 wr base tb db mb cap D Z mM mH g fM fH v l) (N : OnceNe w0 base tb db mb mM mH) (ht : TabAt w' tb db mb cap D Z g') (hM : UM w' mM 4 fM' D Z) (hH : UM w' mH 4 fH' D Z) (hs : wr.heap.size ≤ w'.heap.size) (hk : ∀ k, base ≤ k → k < wr.heap.size → w'.heap[k]? = wr.heap[k]?) (hb : Below w0.heap.size w0 w') :
    OnceSt w0 w' base tb db mb cap D Z mM mH g' fM' fH' v l := by
  obtain ⟨A, c, htl⟩ := h.tail
  exact ⟨ht, hM, hH, ⟨A, c, htl.move hs (fun a e => hk _ (htl.own a e).1 (htl.own a e).2.1)⟩, hb, Nat.le_trans h.base hs⟩
theorem OnceSt.alloc (h : OnceSt w0 wr base tb db mb cap D Z mM mH g fM fH v l) (N : OnceNe w0 base tb db mb mM mH) (o : Obj) : OnceSt w0 (wr.alloc o) base tb db mb cap D Z mM mH g fM fH v l :=
  h.by N (h.tab.alloc o) (h.mine.alloc o) (h.held.alloc o) (by simp) (fun k _ hk => Below.heap_alloc wr o k hk) (h.bel.alloc h.bel.size o)
theorem OnceSt.below (h : OnceSt w0 wr base tb db mb cap D Z mM mH g fM fH v l) (N : OnceNe w0 base tb db mb mM mH) (hb : Below wr.heap.size wr w') : OnceSt w0 w' base tb db mb cap D Z mM mH g fM fH v l :=
  h.by N (h.tab.below hb) (h.mine.below hb) (h.held.below hb) hb.size (fun k _ hk => hb.block k hk) (h.bel.trans (hb.mono h.bel.size))
/-- the table's step -/
theorem OnceSt.table (h : OnceSt w0 wr base tb db mb cap D Z mM mH g fM fH v l) (N : OnceNe w0 base tb db mb mM mH) (ht : TabAt w' tb db mb cap D Z g') (hk : Kept (fun x => x ≠ db ∧ x ≠ mb) wr w') : OnceSt w0 w' base tb db mb cap D Z mM mH g' fM fH v l :=
  h.by N ht (h.mine.move (hk.block _ h.mine.lt ⟨N.ne.2.1, N.ne.2.2.1⟩)) (h.held.move (hk.block _ h.held.lt ⟨N.ne.2.2.2.2.1, N.ne.2.2.2.2.2.1⟩)) hk.size (fun k hb hlt => hk.block k hlt (by have := N.lt; exact ⟨by omega, by omega⟩)) (h.bel.trans (hk.to_below (fun k hlt => by have := N.ge; exact ⟨by omega, by omega⟩) h.bel.size))
/-- a map's step -/
theorem OnceSt.mineTo (h : OnceSt w0 wr base tb db mb cap D Z mM mH g fM fH v l) (N : OnceNe w0 base tb db mb mM mH) (hM : UM w' mM 4 fM' D Z) (ht : wr.mapTurned w' mM) : OnceSt w0 w' base tb db mb cap D Z mM mH g fM' fH v l := by
  have hb : ∀ k, k < wr.heap.size → k ≠ mM → w'.heap[k]? = wr.heap[k]? := fun k hk hne => ht.grown.block k hk (fun e => hne (by cases e; rfl))
  exact h.by N (h.tab.move (hb _ h.tab.tc.lt N.ne.1.symm) (hb _ h.tab.dc.lt N.ne.2.1.symm) (hb _ h.tab.mc.lt N.ne.2.2.1.symm)) hM (h.held.move (hb _ h.held.lt N.ne.2.2.2.2.2.2.symm)) ht.grown.size (fun k hbs hlt => hb k hlt (by have := N.lt; omega)) (h.bel.grown ht.grown h.bel.size (fun k hk => by cases hk; exact N.ge.2.2.1))
theorem OnceSt.heldTo (h : OnceSt w0 wr base tb db mb cap D Z mM mH g fM fH v l) (N : OnceNe w0 base tb db mb mM mH) (hH : UM w' mH 4 fH' D Z) (ht : wr.mapTurned w' mH) : OnceSt w0 w' base tb db mb cap D Z mM mH g fM fH' v l := by
  have hb : ∀ k, k < wr.heap.size → k ≠ mH → w'.heap[k]? = wr.heap[k]? := fun k hk hne => ht.grown.block k hk (fun e => hne (by cases e; rfl))
  exact h.by N (h.tab.move (hb _ h.tab.tc.lt N.ne.2.2.2.1.symm) (hb _ h.tab.dc.lt N.ne.2.2.2.2.1.symm) (hb _ h.tab.mc.lt N.ne.2.2.2.2.2.1.symm)) (h.mine.move (hb _ h.mine.lt N.ne.2.2.2.2.2.2)) hH ht.grown.size (fun k hbs hlt => hb k hlt (by have := N.lt; omega)) (h.bel.grown ht.grown h.bel.size (fun k hk => by cases hk; exact N.ge.2.2.2.1))
/-- the list's step -/
theorem OnceSt.listTo (h : OnceSt w0 wr base tb db mb cap D Z mM mH g fM fH v l) (N : OnceNe w0 base tb db mb mM mH) {A : Option Addr} {c : Nat} (hv : TailU wr base v l A c) {A' : Option Addr} {c' : Nat} (hv' : TailU w' base v' l' A' c') (hg : wr.grownBy w' (A.map (·.block))) : OnceSt w0 w' base tb db mb cap D Z mM mH g fM fH v' l' := by
  have hb : ∀ k, k < wr.heap.size → k < base → w'.heap[k]? = wr.heap[k]? := fun k hk hlt => hg.block k hk (fun e => by have := hv.base_le k e.symm; omega)
  exact ⟨h.tab.move (hb _ h.tab.tc.lt N.lt.1) (hb _ h.tab.dc.lt N.lt.2.1) (hb _ h.tab.mc.lt N.lt.2.2.1), h.mine.move (hb _ h.mine.lt N.lt.2.2.2.1), h.held.move (hb _ h.held.lt N.lt.2.2.2.2), ⟨A', c', hv'⟩, h.bel.grown hg h.bel.size (fun k hk => by have := hv.base_le k hk; have := N.ge; omega), Nat.le_trans h.base hg.size⟩
end
end Go.Proofs.Ytffmipmkbbholaa
