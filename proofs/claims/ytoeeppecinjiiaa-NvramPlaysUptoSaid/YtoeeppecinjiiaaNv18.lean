/-
  NvramFronts: what its walk needs, step by step.
-/
import Derived.Test.YtoeeppecinjiiaaNv17
namespace Go.Proofs.Ytoeeppecinjiiaa
open Go.RowKit

def Inv (w0 : World) (pw nv rd c k : Nat) (w : World) : Prop :=
  ∃ m D R, Rig w0 pw nv rd (Pk m) D R w ∧ Alike D R ∧ D.mem.length = 100 ∧ m ≤ c + k ∧ D.pending ≤ k * 5000
/-- an act's cells, as far as the fronts need them -/
def RowAt (w : World) (b o : Nat) (A : Option Addr) (c : Nat) (x : PAct) : Prop :=
  w.cell? ⟨b, o + 1, none⟩ = some (.int .i64 x.place) ∧ w.cell? ⟨b, o + 3, none⟩ = some (.slice A x.bytes.length c)
section
set_option maxRecDepth 20000
variable {w0 w wr : World} {pw nv rd c k : Nat}
theorem Inv.drewN (h : Inv w0 pw nv rd c k w) (q : Nat) : Inv w0 pw nv rd c k (w.drewN q) := by
  obtain ⟨m, D, R, h1, h2⟩ := h
  exact ⟨m, D, R, h1.drewN q, h2⟩
theorem Inv.bel (h : Inv w0 pw nv rd c k w) : Below w0.heap.size w0 w := by
  obtain ⟨m, D, R, h1, _⟩ := h
  exact h1.bel
theorem Inv.row (h : Inv w0 pw nv rd c k w) {b o cp : Nat} {A : Option Addr} {x : PAct} (hb : b < w0.heap.size) (hr : RowAt w0 b o A cp x) : RowAt w b o A cp x :=
  ⟨(h.bel.cell (p := ⟨b, o + 1, none⟩) hb).trans hr.1, (h.bel.cell (p := ⟨b, o + 3, none⟩) hb).trans hr.2⟩
/-- an act more -/
theorem Inv.step (h : Inv w0 pw nv rd c k w) (hk : k ≤ 300) (hc : c ≤ 1000) {A : Option Addr} {cp : Nat} {x : PAct} (hr : RB w0 w0.heap.size A x.bytes) (hx : x.bytes.length ≤ 5000) :
    (hasB 100 x.place (x.bytes.length : Int) = false ∧ Calls Try.prog 10 #[.pointer (some ⟨rd, 0, none⟩), .int .i64 x.place, .int .i64 (x.bytes.length : Int)] w (fun e w' => e = .returned (.bool false) ∧ w = w') ∧ Inv w0 pw nv rd c (k + 1) w) ∨
    (hasB 100 x.place (x.bytes.length : Int) = true ∧ Calls Try.prog 10 #[.pointer (some ⟨rd, 0, none⟩), .int .i64 x.place, .int .i64 (x.bytes.length : Int)] w (fun e w' => e = .returned (.bool true) ∧ w = w') ∧
      Calls Try.prog 12 #[.pointer (some ⟨nv, 0, none⟩), .int .i64 x.place, .slice (some ⟨w.heap.size, 0, none⟩) 1 1] (w.alloc (.cells #[.slice A x.bytes.length cp] 35)) fun e w2 => e = .returned (.int .i64 0) ∧ Below w0.heap.size w0 w2 ∧
        ∀ q, Calls Try.prog 13 #[.pointer (some ⟨rd, 0, none⟩), .int .i64 x.place, .slice A x.bytes.length cp] (w2.drewN q) fun e w3 => e = .returned (.tuple #[]) ∧ Inv w0 pw nv rd c (k + 1) w3) := by
  obtain ⟨m, D, R, h1, h2, h3, h4, h5⟩ := h
  have hsz := h2.size
  have hcnt := h2.count
  have hf := h1.fits x.place (x.bytes.length : Int)
  have h100 : R.kept.length = 100 := by omega
  rw [← h100]
  by_cases hh : hasB R.kept.length x.place (x.bytes.length : Int) = true
  case neg =>
    have hh' : hasB R.kept.length x.place (x.bytes.length : Int) = false := by simpa using hh
    rw [hh'] at hf
    exact .inl ⟨hh', hf, m, D, R, h1, h2, h3, by omega, by omega⟩
  rw [hh] at hf
  refine .inr ⟨hh, hf, ?_⟩
  obtain ⟨q0, q1, q2⟩ := of_decide_eq_true hh
  obtain ⟨a, ha⟩ : ∃ a : Nat, x.place = (a : Int) := ⟨x.place.toNat, by omega⟩
  rw [ha] at q0 q2 ⊢
  refine (h1.write1 a hr (by omega) (by omega) (by omega)).mono fun e w2 ⟨he, g1⟩ => ⟨he, g1.bel, fun q => ?_⟩
  refine ((g1.drewN q).rwrite a hr (by omega) (by omega)).mono fun e w3 ⟨he, g2⟩ => ⟨he, m + 1, _, _, g2, ?_, ?_, by omega, ?_⟩
  · have := h2.putAll [x.bytes] a (by simp [total]; omega)
    simpa using this
  · rw [(D.putAll_length [x.bytes] a (by simp [total]; omega)).1, h3]
  · rw [(D.putAll_length [x.bytes] a (by simp [total]; omega)).2]
    simp [total]; omega
/-- both persist -/
theorem Inv.persist (h : Inv w0 pw nv rd c k w) (hk : k ≤ 300) (hc : c ≤ 1000) :
    Calls Try.prog 14 #[.pointer (some ⟨nv, 0, none⟩)] w fun e w2 => e = .returned (.int .i64 0) ∧ Calls Try.prog 15 #[.pointer (some ⟨rd, 0, none⟩)] w2 fun e w3 => e = .returned (.tuple #[]) ∧ Inv w0 pw nv rd (c + k + 1) 0 w3 := by
  obtain ⟨m, D, R, h1, h2, h3, h4, h5⟩ := h
  have hcnt := h2.count
  refine (h1.persist (by omega) (by omega)).mono fun e w2 ⟨he, g1⟩ => ⟨he, ?_⟩
  exact (g1.rpersist (by omega)).mono fun e w3 ⟨he, g2⟩ => ⟨he, m + 1, _, _, g2, h2.settle, h3, by omega, Nat.zero_le _⟩
/-- what lies there behind the cut -/
structure EndSt (w0 : World) (nv rd np : Nat) (Ab : Option Addr) (w : World) (Ak Al : Option Addr) (ck cl : Nat) (K : List UInt8) (L : List (Nat × UInt8)) (kk : Nat) : Prop where
  k0 : w.cell? ⟨rd, 0, none⟩ = some (.slice Ak 100 ck)
  k1 : w.cell? ⟨rd, 1, none⟩ = some (.slice Al np cl)
  lt : rd < w.heap.size
  rk : RB w w.heap.size Ak K
  lk : K.length = 100
  ll : L.length = np
  rows : ∀ (k : Nat) (p : Nat × UInt8), L[k]? = some p → p.1 < 100 ∧ ∃ b, Al = some ⟨b, 0, none⟩ ∧ b < w.heap.size ∧ w.cell? ⟨b, k * 2, none⟩ = some (.int .i64 (p.1 : Int)) ∧ w.cell? ⟨b, k * 2 + 1, none⟩ = some (.int .u8 (p.2.toNat : Int))
  kl : kk ≤ np
  rb : RB w w.heap.size Ab (lay K (L.take kk))
  pend : Calls Try.prog 20 #[.pointer (some ⟨nv, 0, none⟩)] w fun e w' => e = .returned (.int .i64 0) ∧ w = w'
  bel : Below w0.heap.size w0 w
theorem Inv.finish (h : Inv w0 pw nv rd c k w) (hk : k ≤ 300) (pick : Int) :
    ∃ np : Nat, np ≤ 1500000 ∧ Calls Try.prog 20 #[.pointer (some ⟨nv, 0, none⟩)] w (fun e w' => e = .returned (.int .i64 (np : Int)) ∧ w = w') ∧
      Calls Try.prog 16 #[.pointer (some ⟨nv, 0, none⟩), .slice (some ⟨w.heap.size, 0, none⟩) 1 1] (w.alloc (.cells #[.int .i64 pick] 3)) fun e w2 => e = .returned (.tuple #[]) ∧
        Calls Try.prog 21 #[.pointer (some ⟨nv, 0, none⟩), .int .i64 0, .int .i64 100] w2 fun e w3 => ∃ Ab cb, e = .returned (.tuple #[.slice Ab 100 cb, .int .i64 0]) ∧ ∃ Ak Al ck cl K L kk, EndSt w0 nv rd np Ab w3 Ak Al ck cl K L kk := by
  obtain ⟨m, D, R, h1, h2, h3, h4, h5⟩ := h
  have hcnt := h2.count
  have hsz := h2.size
  refine ⟨D.pending, by omega, h1.pending, (h1.cut1 pick (by omega)).mono fun e w2 ⟨he, g1⟩ => ⟨he, ?_⟩⟩
  have hml : (D.cut [pick]).mem.length = 100 := by
    have := (h2.cut [pick]).size
    rw [this]
    show (lay R.kept _).length = _
    rw [lay_length]; omega
  refine (g1.read 100 hml (by omega)).mono fun e w3 ⟨A, cb, he, hr, g2⟩ => ⟨A, cb, he, ?_⟩
  obtain ⟨O, Q, s1, s2, s3, s4⟩ := g2.st
  obtain ⟨kv, lv, cc, t, k1, k2, l1, l2⟩ := s2.cells
  obtain ⟨Ak, ck, rfl, _, hrk, _⟩ := Own.rb k1
  obtain ⟨Al, cl, rfl, _, _, hrow⟩ := ownsRow_rd l1
  have hk100 : R.kept.length = 100 := by omega
  refine ⟨Ak, Al, ck, cl, R.kept, R.l, keptOf R.l.length [pick], ⟨?_, ?_, cc.lt, hrk, hk100, hcnt.symm, fun k p hp => ?_, by rw [hcnt]; exact keptOf_le _ _, ?_, sysPending s1, g2.bel⟩⟩
  · rw [← hk100]; exact cc.cell (i := 0) rfl
  · rw [hcnt]; exact cc.cell (i := 1) rfl
  · obtain ⟨q1, q2⟩ := rowsOf_get _ _ _ hp
    obtain ⟨b, e, hb, r1⟩ := hrow _ _ q1
    obtain ⟨b2, e2, _, r2⟩ := hrow _ _ q2
    rw [e] at e2
    cases e2
    exact ⟨by rw [← hk100]; exact s2.places p (List.mem_of_getElem? hp), b, e, hb, r1, r2⟩
  · have := (h2.cut [pick]).all
    rw [this] at hr
    exact hr
theorem ActsAt.below {l : List PAct} {A : Option Addr} (h : ActsAt w A l) (hb : Below w.heap.size w wr) : ActsAt wr A l := fun k x hx => by
  obtain ⟨b, o, e, hlt, g0, g1, g2, ⟨A1, c1, g3, r3, x3⟩, ⟨A2, c2, g4, r4, x4⟩⟩ := h k x hx
  have mv : ∀ {i : Nat} {v : Value}, w.cell? ⟨b, i, none⟩ = some v → wr.cell? ⟨b, i, none⟩ = some v := fun hv => (hb.cell (p := ⟨b, _, none⟩) hlt).trans hv
  refine ⟨b, o, e, Nat.lt_of_lt_of_le hlt hb.size, mv g0, mv g1, mv g2, ⟨A1, c1, mv g3, (r3.below hb).wide hb.size, x3⟩, ⟨A2, c2, mv g4, fun k x hx => ?_, x4⟩⟩
  obtain ⟨ad, e, hlt, hc⟩ := r4 k x hx
  exact ⟨ad, e, Nat.lt_of_lt_of_le hlt hb.size, (hb.cell (p := ad.add k) (by rw [add_block]; exact hlt)).trans hc⟩
theorem fewB_len {l : List PAct} (h : fewB l = true) : l.length ≤ 300 ∧ ∀ (k : Nat) (x : PAct), l[k]? = some x → x.bytes.length ≤ 5000 := by
  obtain ⟨h1, h2⟩ := of_decide_eq_true h
  refine ⟨h1, fun k x hx => ?_⟩
  have e := sumLens_take l k x hx
  have : sumLens l = sumLens (l.take (k + 1)) + sumLens (l.drop (k + 1)) := by
    unfold sumLens
    rw [← List.sum_append, ← List.map_append, List.take_append_drop]
  omega
end
end Go.Proofs.Ytoeeppecinjiiaa
