/-
  What the second saying's Inverse holds: two matrices, one behind the other.
-/
import Derived.Test.YtbfbjmngcojaoaaGf31
namespace Go.Proofs.Ytbfbjmngcojaoaa
open Go.RowKit

set_option maxRecDepth 20000
/-- one more copied row, not empty -/
theorem matO_step {w wr w1 : World} {v rv : Value} {L : Mtx} {l : List UInt8} (h : MatO wr w.heap.size wr.heap.size v L ∧ Below w.heap.size w wr) (h0 : 0 < l.length) (ho : Own w1 wr.heap.size rv l) (hb : Below wr.heap.size wr w1) :
    ∃ rows : List Value, OwnV (w1.alloc (.cells #[rv] 46)) w.heap.size 46 v rows ∧ rows.length = L.length ∧
      ∀ v' w', OwnV w' w.heap.size 46 v' (rows ++ [rv]) → (w1.alloc (.cells #[rv] 46)).grownBy w' v.ownBlock → (v'.ownBlock = v.ownBlock ∨ v'.ownBlock = some (w1.alloc (.cells #[rv] 46)).heap.size) → MatO w' w.heap.size w'.heap.size v' (L ++ [l]) ∧ Below w.heap.size w w' := by
  obtain ⟨h1, h2⟩ := h
  have hs := h2.size
  have hb1 : Below wr.heap.size wr (w1.alloc (.cells #[rv] 46)) := hb.alloc hb.size _
  have ho' : Own (w1.alloc (.cells #[rv] 46)) w.heap.size rv l := (ho.wide hs).move fun g hg => Below.heap_alloc _ _ _ (ho.lt g hg).2
  obtain ⟨rows, r1, r2, r3⟩ := (h1.below hb1).push ho' h0 (fun g hg => (ho.lt g hg).1) hb1.size
  refine ⟨rows, r1, r2, fun v' w' q1 q2 q3 => ⟨r3 v' w' q1 q2 q3, ?_⟩⟩
  exact (h2.trans (hb1.mono hs)).grown q2 (by have := hb1.size; omega) fun g hg => (r1.ge g hg).1
structure Pair2 (w0 : World) (ga ca gb cb n lo1 hi1 lo2 hi2 : Nat) (L R : Mtx) (w : World) : Prop where
  m1 : MatO w lo1 hi1 (.slice (some ⟨ga, 0, none⟩) n ca) L
  m2 : MatO w lo2 hi2 (.slice (some ⟨gb, 0, none⟩) n cb) R
  bel : Below w0.heap.size w0 w
  d1 : Dim L n
  d2 : Dim R n
  o0 : w0.heap.size ≤ lo1
  o1 : hi1 ≤ lo2
  o2 : hi2 ≤ w.heap.size
  o3 : w0.heap.size ≤ lo2
section
variable {w0 w w1 : World} {ga ca gb cb n lo1 hi1 lo2 hi2 : Nat} {L R L' R' : Mtx}
theorem Pair2.drewN (h : Pair2 w0 ga ca gb cb n lo1 hi1 lo2 hi2 L R w) (q : Nat) : Pair2 w0 ga ca gb cb n lo1 hi1 lo2 hi2 L R (w.drewN q) :=
  ⟨h.m1.drewN q, h.m2.drewN q, drewN_below h.bel q, h.d1, h.d2, h.o0, h.o1, h.o2, h.o3⟩
theorem Pair2.left (h : Pair2 w0 ga ca gb cb n lo1 hi1 lo2 hi2 L R w) (hm : MatO w1 lo1 hi1 (.slice (some ⟨ga, 0, none⟩) n ca) L') (ho : Out lo1 hi1 w w1) (hd : Dim L' n) : Pair2 w0 ga ca gb cb n lo1 hi1 lo2 hi2 L' R w1 :=
  ⟨hm, h.m2.out ho (.inl h.o1), h.bel.trans (ho.below h.o0 h.bel.size), hd, h.d2, h.o0, h.o1, Nat.le_trans h.o2 ho.size, h.o3⟩
theorem Pair2.right (h : Pair2 w0 ga ca gb cb n lo1 hi1 lo2 hi2 L R w) (hm : MatO w1 lo2 hi2 (.slice (some ⟨gb, 0, none⟩) n cb) R') (ho : Out lo2 hi2 w w1) (hd : Dim R' n) : Pair2 w0 ga ca gb cb n lo1 hi1 lo2 hi2 L R' w1 :=
  ⟨h.m1.out ho (.inr h.o1), hm, h.bel.trans (ho.below h.o3 h.bel.size), h.d1, hd, h.o0, h.o1, Nat.le_trans h.o2 ho.size, h.o3⟩
theorem Pair2.elem (h : Pair2 w0 ga ca gb cb n lo1 hi1 lo2 hi2 L R w) {i j : Nat} (hi : i < n) (hj : j < n) : ∃ b c, w.cell? ⟨ga, i, none⟩ = some (.slice (some ⟨b, 0, none⟩) n c) ∧ n ≤ c ∧ w.cell? ⟨b, j, none⟩ = some (.int .u8 ((at2 L i j).toNat : Int)) := by
  obtain ⟨q1, q2⟩ := h.d1.get hi
  obtain ⟨b, c, hr, _⟩ := h.m1.row q1
  have e1 := hr.head
  rw [q2] at e1
  have hx : (L.getD i [])[j]? = some (at2 L i j) := by
    unfold at2
    rw [List.getD_eq_getElem?_getD (l := L.getD i [])]
    rw [List.getElem?_eq_getElem (by rw [q2]; exact hj)]; rfl
  exact ⟨b, c, e1, by have := hr.cap; omega, hr.cells j _ hx⟩
theorem Pair2.rowR (h : Pair2 w0 ga ca gb cb n lo1 hi1 lo2 hi2 L R w) {i : Nat} (hi : i < n) : ∃ b c, w.cell? ⟨gb, i, none⟩ = some (.slice (some ⟨b, 0, none⟩) n c) ∧ n ≤ c := by
  obtain ⟨q1, q2⟩ := h.d2.get hi
  obtain ⟨b, c, hr, _⟩ := h.m2.row q1
  have e1 := hr.head
  rw [q2] at e1
  exact ⟨b, c, e1, by have := hr.cap; omega⟩
theorem Pair2.swapL (h : Pair2 w0 ga ca gb cb n lo1 hi1 lo2 hi2 L R w) {i p : Nat} (hi : i < n) (hp : p < n) :
    ∃ bi ci bp cp, w.cell? ⟨ga, i, none⟩ = some (.slice (some ⟨bi, 0, none⟩) n ci) ∧ w.cell? ⟨ga, p, none⟩ = some (.slice (some ⟨bp, 0, none⟩) n cp) ∧ w.frozen? ⟨ga, i, none⟩ = false ∧ w.frozen? ⟨ga, p, none⟩ = false ∧
      (∀ q, Pair2 w0 ga ca gb cb n lo1 hi1 lo2 hi2 (swapM L i p) R (((w.setCell ⟨ga, i, none⟩ (.slice (some ⟨bp, 0, none⟩) n cp)).setCell ⟨ga, p, none⟩ (.slice (some ⟨bi, 0, none⟩) n ci)).drewN q)) ∧
      ∀ q, Pair2 w0 ga ca gb cb n lo1 hi1 lo2 hi2 (swapM L i p) R (((w.setCell ⟨ga, p, none⟩ (.slice (some ⟨bi, 0, none⟩) n ci)).setCell ⟨ga, i, none⟩ (.slice (some ⟨bp, 0, none⟩) n cp)).drewN q) := by
  obtain ⟨ri, rp, q1, q2, q3, q4, q5, q6, ⟨bi, ci, rfl⟩, ⟨bp, cp, rfl⟩, q7, q8⟩ := h.m1.swap (i := i) (p := p) (by rw [h.d1.1]; exact hi) (by rw [h.d1.1]; exact hp)
  rw [(h.d1.get hi).2] at q1 q7 q8
  rw [(h.d1.get hp).2] at q2 q7 q8
  refine ⟨bi, ci, bp, cp, q1, q2, q3, q4, fun q => Pair2.drewN (h.left q7 (((Out.refl lo1 hi1 w).set q5 q6 _).set q5 q6 _) (h.d1.swap hi hp)) q, fun q => Pair2.drewN (h.left q8 (((Out.refl lo1 hi1 w).set q5 q6 _).set q5 q6 _) (h.d1.swap hi hp)) q⟩
theorem Pair2.swapR (h : Pair2 w0 ga ca gb cb n lo1 hi1 lo2 hi2 L R w) {i p : Nat} (hi : i < n) (hp : p < n) :
    ∃ bi ci bp cp, w.cell? ⟨gb, i, none⟩ = some (.slice (some ⟨bi, 0, none⟩) n ci) ∧ w.cell? ⟨gb, p, none⟩ = some (.slice (some ⟨bp, 0, none⟩) n cp) ∧ w.frozen? ⟨gb, i, none⟩ = false ∧ w.frozen? ⟨gb, p, none⟩ = false ∧
      (∀ q, Pair2 w0 ga ca gb cb n lo1 hi1 lo2 hi2 L (swapM R i p) (((w.setCell ⟨gb, i, none⟩ (.slice (some ⟨bp, 0, none⟩) n cp)).setCell ⟨gb, p, none⟩ (.slice (some ⟨bi, 0, none⟩) n ci)).drewN q)) ∧
      ∀ q, Pair2 w0 ga ca gb cb n lo1 hi1 lo2 hi2 L (swapM R i p) (((w.setCell ⟨gb, p, none⟩ (.slice (some ⟨bi, 0, none⟩) n ci)).setCell ⟨gb, i, none⟩ (.slice (some ⟨bp, 0, none⟩) n cp)).drewN q) := by
  obtain ⟨ri, rp, q1, q2, q3, q4, q5, q6, ⟨bi, ci, rfl⟩, ⟨bp, cp, rfl⟩, q7, q8⟩ := h.m2.swap (i := i) (p := p) (by rw [h.d2.1]; exact hi) (by rw [h.d2.1]; exact hp)
  rw [(h.d2.get hi).2] at q1 q7 q8
  rw [(h.d2.get hp).2] at q2 q7 q8
  refine ⟨bi, ci, bp, cp, q1, q2, q3, q4, fun q => Pair2.drewN (h.right q7 (((Out.refl lo2 hi2 w).set q5 q6 _).set q5 q6 _) (h.d2.swap hi hp)) q, fun q => Pair2.drewN (h.right q8 (((Out.refl lo2 hi2 w).set q5 q6 _).set q5 q6 _) (h.d2.swap hi hp)) q⟩
theorem Pair2.scaleL (h : Pair2 w0 ga ca gb cb n lo1 hi1 lo2 hi2 L R w) (hn : n ≤ 255) {i b c : Nat} (hi : i < n) (q0 : w.cell? ⟨ga, i, none⟩ = some (.slice (some ⟨b, 0, none⟩) n c)) (x : UInt8) :
    Calls Try.prog 52 #[.slice (some ⟨b, 0, none⟩) n c, .int .u8 (x.toNat : Int)] w fun e w' => e = .returned (.tuple #[]) ∧ Pair2 w0 ga ca gb cb n lo1 hi1 lo2 hi2 (scaleM L i x) R w' :=
  (rscale_any ga n ca i b c n x L lo1 hi1 w h.m1 h.d1.1.symm hi hn (by rw [(h.d1.get hi).2]; exact hn) q0).mono fun e w' ⟨he, hm, ho⟩ => ⟨he, h.left hm ho (h.d1.scale hi x)⟩
theorem Pair2.scaleR (h : Pair2 w0 ga ca gb cb n lo1 hi1 lo2 hi2 L R w) (hn : n ≤ 255) {i b c : Nat} (hi : i < n) (q0 : w.cell? ⟨gb, i, none⟩ = some (.slice (some ⟨b, 0, none⟩) n c)) (x : UInt8) :
    Calls Try.prog 52 #[.slice (some ⟨b, 0, none⟩) n c, .int .u8 (x.toNat : Int)] w fun e w' => e = .returned (.tuple #[]) ∧ Pair2 w0 ga ca gb cb n lo1 hi1 lo2 hi2 L (scaleM R i x) w' :=
  (rscale_any gb n cb i b c n x R lo2 hi2 w h.m2 h.d2.1.symm hi hn (by rw [(h.d2.get hi).2]; exact hn) q0).mono fun e w' ⟨he, hm, ho⟩ => ⟨he, h.right hm ho (h.d2.scale hi x)⟩
theorem Pair2.mixL (h : Pair2 w0 ga ca gb cb n lo1 hi1 lo2 hi2 L R w) (hn : n ≤ 255) {p i b c b1 c1 : Nat} (hp : p < n) (hi : i < n) (hpi : p ≠ i) (q0 : w.cell? ⟨ga, p, none⟩ = some (.slice (some ⟨b, 0, none⟩) n c)) (q1 : w.cell? ⟨ga, i, none⟩ = some (.slice (some ⟨b1, 0, none⟩) n c1)) (x : UInt8) :
    Calls Try.prog 53 #[.slice (some ⟨b, 0, none⟩) n c, .slice (some ⟨b1, 0, none⟩) n c1, .int .u8 (x.toNat : Int)] w fun e w' => e = .returned (.tuple #[]) ∧ Pair2 w0 ga ca gb cb n lo1 hi1 lo2 hi2 (addM L p i x) R w' :=
  (rmix_any ga n ca p i b c b1 c1 n x L lo1 hi1 w h.m1 h.d1.1.symm hp hi hpi hn (by rw [(h.d1.get hi).2]; exact hn) (by rw [(h.d1.get hp).2, (h.d1.get hi).2]) q0 q1).mono fun e w' ⟨he, hm, ho⟩ => ⟨he, h.left hm ho (h.d1.add hp hi x)⟩
theorem Pair2.mixR (h : Pair2 w0 ga ca gb cb n lo1 hi1 lo2 hi2 L R w) (hn : n ≤ 255) {p i b c b1 c1 : Nat} (hp : p < n) (hi : i < n) (hpi : p ≠ i) (q0 : w.cell? ⟨gb, p, none⟩ = some (.slice (some ⟨b, 0, none⟩) n c)) (q1 : w.cell? ⟨gb, i, none⟩ = some (.slice (some ⟨b1, 0, none⟩) n c1)) (x : UInt8) :
    Calls Try.prog 53 #[.slice (some ⟨b, 0, none⟩) n c, .slice (some ⟨b1, 0, none⟩) n c1, .int .u8 (x.toNat : Int)] w fun e w' => e = .returned (.tuple #[]) ∧ Pair2 w0 ga ca gb cb n lo1 hi1 lo2 hi2 L (addM R p i x) w' :=
  (rmix_any gb n cb p i b c b1 c1 n x R lo2 hi2 w h.m2 h.d2.1.symm hp hi hpi hn (by rw [(h.d2.get hi).2]; exact hn) (by rw [(h.d2.get hp).2, (h.d2.get hi).2]) q0 q1).mono fun e w' ⟨he, hm, ho⟩ => ⟨he, h.right hm ho (h.d2.add hp hi x)⟩
end
theorem addR_zero (r o : List UInt8) (h : r.length = o.length) : addR r o 0 = r := by
  apply List.ext_getElem?
  intro k
  unfold addR
  by_cases hk : k < r.length
  · rw [List.getElem?_zipWith, List.getElem?_eq_getElem hk, List.getElem?_eq_getElem (by omega)]
    simp [bm_zero', bx_zero]
  · rw [List.getElem?_eq_none (by simp; omega), List.getElem?_eq_none (by omega)]
theorem addM_zero {M : Mtx} {n p i : Nat} (hd : Dim M n) (hp : p < n) (hi : i < n) : addM M p i 0 = M := by
  unfold addM
  rw [addR_zero _ _ (by rw [(hd.get hp).2, (hd.get hi).2])]
  apply List.ext_getElem?
  intro k
  rw [List.getElem?_set]
  by_cases e : p = k
  · subst e
    rw [if_pos rfl, if_pos (by rw [hd.1]; exact hp)]
    exact (hd.get hp).1.symm
  · rw [if_neg e]
theorem pivFrom_next (M : Mtx) (i N k : Nat) (hk : k < N) : pivFrom M i (N - k) k = if at2 M k i ≠ 0 then some k else pivFrom M i (N - (k + 1)) (k + 1) := by
  obtain ⟨m, hm⟩ : ∃ m, N - k = m + 1 := ⟨N - k - 1, by omega⟩
  rw [hm, show N - (k + 1) = m by omega]
  rfl
theorem inv_u8 (x : UInt8) (h : x ≠ 0) (w : World) : Calls Try.prog 38 #[.int .u8 (x.toNat : Int)] w fun e w' => e = .returned (.int .u8 ((gib x).toNat : Int)) ∧ w' = w := by
  have := rinv_any x.toNat w (u8_lt x)
  rw [gpow_254 (u8_lt x) (fun e => h (UInt8.toNat_inj.1 e)), ← gib_nat] at this
  exact this.mono fun _ _ ⟨a, b⟩ => ⟨a, b.symm⟩
end Go.Proofs.Ytbfbjmngcojaoaa
