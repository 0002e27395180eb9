/-
  Two matrices side by side, turned alike: what the program's inverse does to both.
-/
import Derived.Test.YtbfbjmngcojaoaaGf16
import Derived.Test.YtbfbjmngcojaoaaGf11
namespace Go.Proofs.Ytbfbjmngcojaoaa
open Go.RowKit

set_option maxRecDepth 20000
def Dim (M : Mtx) (n : Nat) : Prop := M.length = n ∧ ∀ (k : Nat) (l : List UInt8), M[k]? = some l → l.length = n
theorem Dim.get {M : Mtx} {n i : Nat} (h : Dim M n) (hi : i < n) : M[i]? = some (M.getD i []) ∧ (M.getD i []).length = n := by
  have hlt : i < M.length := by rw [h.1]; exact hi
  have h1 : M[i]? = some M[i] := List.getElem?_eq_getElem hlt
  rw [getD_of h1]
  exact ⟨h1, h.2 i _ h1⟩
theorem Dim.set {M : Mtx} {n i : Nat} {l : List UInt8} (h : Dim M n) (hl : l.length = n) : Dim (M.set i l) n := by
  refine ⟨by rw [List.length_set]; exact h.1, fun k x hx => ?_⟩
  rw [List.getElem?_set] at hx
  split at hx
  · split at hx
    · cases hx; exact hl
    · cases hx
  · exact h.2 k x hx
theorem Dim.swap {M : Mtx} {n i p : Nat} (h : Dim M n) (hi : i < n) (hp : p < n) : Dim (swapM M i p) n := (h.set (h.get hp).2).set (h.get hi).2
theorem Dim.scale {M : Mtx} {n i : Nat} (h : Dim M n) (hi : i < n) (x : UInt8) : Dim (scaleM M i x) n := h.set (by unfold scaleR; rw [List.length_map]; exact (h.get hi).2)
theorem Dim.add {M : Mtx} {n p i : Nat} (h : Dim M n) (hp : p < n) (hi : i < n) (x : UInt8) : Dim (addM M p i x) n := h.set (by unfold addR; rw [List.length_zipWith, (h.get hp).2, (h.get hi).2, Nat.min_self])
theorem dim_unit (n : Nat) : Dim (unitM n) n := by
  refine ⟨unitM_length n, fun k l hl => ?_⟩
  have hk : k < n := by
    have := (List.getElem?_eq_some_iff.1 hl).1
    rwa [unitM_length] at this
  rw [← unitK_done, unitK_get n n k hk] at hl
  have := Option.some.inj hl
  rw [← this, if_pos hk]
  simp
structure Two (w0 : World) (a4 a5 g1 g2 n lo1 hi1 lo2 hi2 : Nat) (L R : Mtx) (w : World) : Prop where
  m1 : MatO w lo1 hi1 (.slice (some ⟨g1, 0, none⟩) n n) L
  m2 : MatO w lo2 hi2 (.slice (some ⟨g2, 0, none⟩) n n) R
  c4 : w.cell? ⟨a4, 0, none⟩ = some (.slice (some ⟨g1, 0, none⟩) n n)
  c5 : w.cell? ⟨a5, 0, none⟩ = some (.slice (some ⟨g2, 0, none⟩) n n)
  bel : Below w0.heap.size w0 w
  d1 : Dim L n
  d2 : Dim R n
  o0 : w0.heap.size ≤ lo1
  o1 : hi1 ≤ a4
  o2 : a4 < lo2
  o3 : hi2 ≤ a5
  o4 : a5 < w.heap.size
  o5 : a4 < a5
  o6 : w0.heap.size ≤ lo2
section
variable {w0 w w1 : World} {a4 a5 g1 g2 n lo1 hi1 lo2 hi2 : Nat} {L R L' R' : Mtx}
theorem Two.drewN (h : Two w0 a4 a5 g1 g2 n lo1 hi1 lo2 hi2 L R w) (q : Nat) : Two w0 a4 a5 g1 g2 n lo1 hi1 lo2 hi2 L R (w.drewN q) :=
  ⟨h.m1.drewN q, h.m2.drewN q, h.c4, h.c5, drewN_below h.bel q, h.d1, h.d2, h.o0, h.o1, h.o2, h.o3, h.o4, h.o5, h.o6⟩
theorem Two.left (h : Two w0 a4 a5 g1 g2 n lo1 hi1 lo2 hi2 L R w) (hm : MatO w1 lo1 hi1 (.slice (some ⟨g1, 0, none⟩) n n) L') (ho : Out lo1 hi1 w w1) (hd : Dim L' n) : Two w0 a4 a5 g1 g2 n lo1 hi1 lo2 hi2 L' R w1 := by
  obtain ⟨m1, m2, c4, c5, bel, d1, d2, o0, o1, o2, o3, o4, o5, o6⟩ := h
  exact ⟨hm, m2.move fun b h1 h2 h3 => ho.block b h3 (.inr (by omega)), (World.cell?_of_block (w := w) (a := ⟨a4, 0, none⟩) (ho.block a4 (by omega) (.inr o1))).trans c4,
    (World.cell?_of_block (w := w) (a := ⟨a5, 0, none⟩) (ho.block a5 o4 (.inr (by omega)))).trans c5, bel.trans (ho.below o0 bel.size), hd, d2, o0, o1, o2, o3, Nat.lt_of_lt_of_le o4 ho.size, o5, o6⟩
theorem Two.right (h : Two w0 a4 a5 g1 g2 n lo1 hi1 lo2 hi2 L R w) (hm : MatO w1 lo2 hi2 (.slice (some ⟨g2, 0, none⟩) n n) R') (ho : Out lo2 hi2 w w1) (hd : Dim R' n) : Two w0 a4 a5 g1 g2 n lo1 hi1 lo2 hi2 L R' w1 := by
  obtain ⟨m1, m2, c4, c5, bel, d1, d2, o0, o1, o2, o3, o4, o5, o6⟩ := h
  exact ⟨m1.move fun b h1 h2 h3 => ho.block b h3 (.inl (by omega)), hm, (World.cell?_of_block (w := w) (a := ⟨a4, 0, none⟩) (ho.block a4 (by omega) (.inl o2))).trans c4,
    (World.cell?_of_block (w := w) (a := ⟨a5, 0, none⟩) (ho.block a5 o4 (.inr o3))).trans c5, bel.trans (ho.below o6 bel.size), d1, hd, o0, o1, o2, o3, Nat.lt_of_lt_of_le o4 ho.size, o5, o6⟩
/-- the closure: the same is done to both -/
theorem both_swap (i p u : Value) (h : Two w0 a4 a5 g1 g2 n lo1 hi1 lo2 hi2 L R w)
    (hl : Calls Try.prog 49 #[.slice (some ⟨g1, 0, none⟩) n n, i, p, u] w (OpPost w lo1 hi1 (.slice (some ⟨g1, 0, none⟩) n n) L')) (hdl : Dim L' n)
    (hr : ∀ w1, Two w0 a4 a5 g1 g2 n lo1 hi1 lo2 hi2 L' R w1 → Calls Try.prog 49 #[.slice (some ⟨g2, 0, none⟩) n n, i, p, u] w1 (OpPost w1 lo2 hi2 (.slice (some ⟨g2, 0, none⟩) n n) R')) (hdr : Dim R' n) :
    Calls Try.prog 47 #[.func (.func 49) #[] #[], i, p, u, .pointer (some ⟨a4, 0, none⟩), .pointer (some ⟨a5, 0, none⟩)] w fun e w' => e = .returned (.tuple #[]) ∧ Two w0 a4 a5 g1 g2 n lo1 hi1 lo2 hi2 L' R' w' := by
  have q4 := h.c4
  have Hl : Hid (Calls Try.prog 49 #[.slice (some ⟨g1, 0, none⟩) n n, i, p, u] w fun e w1 => e = .returned (.tuple #[]) ∧ w1.cell? ⟨a5, 0, none⟩ = some (.slice (some ⟨g2, 0, none⟩) n n) ∧ Hid (Calls Try.prog 49 #[.slice (some ⟨g2, 0, none⟩) n n, i, p, u] w1 fun e w2 => e = .returned (.tuple #[]) ∧ Two w0 a4 a5 g1 g2 n lo1 hi1 lo2 hi2 L' R' w2)) := by
    refine hl.mono fun e w1 ⟨he, hm, ho⟩ => ?_
    have h1 := h.left hm ho hdl
    refine ⟨he, h1.c5, ?_⟩
    exact (hr w1 h1).mono fun e w2 ⟨he, hm2, ho2⟩ => ⟨he, h1.right hm2 ho2 hdr⟩
  clear h hl hdl hr hdr
  go_enter Try.func47, Try.ntmps47
  go_wp2_with fail
  refine Hl.out.mono ?_
  rintro e w1 ⟨rfl, q5, Hr⟩
  go_wp2_with fail
  refine Hr.out.mono ?_
  rintro e w2 ⟨rfl, h2⟩
  have H2 := Lib.hid h2
  clear h2
  go_wp2_with fail
  go_end0
  exact ⟨rfl, H2.out⟩
/-- the closure: the same is done to both -/
theorem both_scale (i p u : Value) (h : Two w0 a4 a5 g1 g2 n lo1 hi1 lo2 hi2 L R w)
    (hl : Calls Try.prog 50 #[.slice (some ⟨g1, 0, none⟩) n n, i, p, u] w (OpPost w lo1 hi1 (.slice (some ⟨g1, 0, none⟩) n n) L')) (hdl : Dim L' n)
    (hr : ∀ w1, Two w0 a4 a5 g1 g2 n lo1 hi1 lo2 hi2 L' R w1 → Calls Try.prog 50 #[.slice (some ⟨g2, 0, none⟩) n n, i, p, u] w1 (OpPost w1 lo2 hi2 (.slice (some ⟨g2, 0, none⟩) n n) R')) (hdr : Dim R' n) :
    Calls Try.prog 47 #[.func (.func 50) #[] #[], i, p, u, .pointer (some ⟨a4, 0, none⟩), .pointer (some ⟨a5, 0, none⟩)] w fun e w' => e = .returned (.tuple #[]) ∧ Two w0 a4 a5 g1 g2 n lo1 hi1 lo2 hi2 L' R' w' := by
  have q4 := h.c4
  have Hl : Hid (Calls Try.prog 50 #[.slice (some ⟨g1, 0, none⟩) n n, i, p, u] w fun e w1 => e = .returned (.tuple #[]) ∧ w1.cell? ⟨a5, 0, none⟩ = some (.slice (some ⟨g2, 0, none⟩) n n) ∧ Hid (Calls Try.prog 50 #[.slice (some ⟨g2, 0, none⟩) n n, i, p, u] w1 fun e w2 => e = .returned (.tuple #[]) ∧ Two w0 a4 a5 g1 g2 n lo1 hi1 lo2 hi2 L' R' w2)) := by
    refine hl.mono fun e w1 ⟨he, hm, ho⟩ => ?_
    have h1 := h.left hm ho hdl
    refine ⟨he, h1.c5, ?_⟩
    exact (hr w1 h1).mono fun e w2 ⟨he, hm2, ho2⟩ => ⟨he, h1.right hm2 ho2 hdr⟩
  clear h hl hdl hr hdr
  go_enter Try.func47, Try.ntmps47
  go_wp2_with fail
  refine Hl.out.mono ?_
  rintro e w1 ⟨rfl, q5, Hr⟩
  go_wp2_with fail
  refine Hr.out.mono ?_
  rintro e w2 ⟨rfl, h2⟩
  have H2 := Lib.hid h2
  clear h2
  go_wp2_with fail
  go_end0
  exact ⟨rfl, H2.out⟩
/-- the closure: the same is done to both -/
theorem both_add (i p u : Value) (h : Two w0 a4 a5 g1 g2 n lo1 hi1 lo2 hi2 L R w)
    (hl : Calls Try.prog 51 #[.slice (some ⟨g1, 0, none⟩) n n, i, p, u] w (OpPost w lo1 hi1 (.slice (some ⟨g1, 0, none⟩) n n) L')) (hdl : Dim L' n)
    (hr : ∀ w1, Two w0 a4 a5 g1 g2 n lo1 hi1 lo2 hi2 L' R w1 → Calls Try.prog 51 #[.slice (some ⟨g2, 0, none⟩) n n, i, p, u] w1 (OpPost w1 lo2 hi2 (.slice (some ⟨g2, 0, none⟩) n n) R')) (hdr : Dim R' n) :
    Calls Try.prog 47 #[.func (.func 51) #[] #[], i, p, u, .pointer (some ⟨a4, 0, none⟩), .pointer (some ⟨a5, 0, none⟩)] w fun e w' => e = .returned (.tuple #[]) ∧ Two w0 a4 a5 g1 g2 n lo1 hi1 lo2 hi2 L' R' w' := by
  have q4 := h.c4
  have Hl : Hid (Calls Try.prog 51 #[.slice (some ⟨g1, 0, none⟩) n n, i, p, u] w fun e w1 => e = .returned (.tuple #[]) ∧ w1.cell? ⟨a5, 0, none⟩ = some (.slice (some ⟨g2, 0, none⟩) n n) ∧ Hid (Calls Try.prog 51 #[.slice (some ⟨g2, 0, none⟩) n n, i, p, u] w1 fun e w2 => e = .returned (.tuple #[]) ∧ Two w0 a4 a5 g1 g2 n lo1 hi1 lo2 hi2 L' R' w2)) := by
    refine hl.mono fun e w1 ⟨he, hm, ho⟩ => ?_
    have h1 := h.left hm ho hdl
    refine ⟨he, h1.c5, ?_⟩
    exact (hr w1 h1).mono fun e w2 ⟨he, hm2, ho2⟩ => ⟨he, h1.right hm2 ho2 hdr⟩
  clear h hl hdl hr hdr
  go_enter Try.func47, Try.ntmps47
  go_wp2_with fail
  refine Hl.out.mono ?_
  rintro e w1 ⟨rfl, q5, Hr⟩
  go_wp2_with fail
  refine Hr.out.mono ?_
  rintro e w2 ⟨rfl, h2⟩
  have H2 := Lib.hid h2
  clear h2
  go_wp2_with fail
  go_end0
  exact ⟨rfl, H2.out⟩
end
end Go.Proofs.Ytbfbjmngcojaoaa
