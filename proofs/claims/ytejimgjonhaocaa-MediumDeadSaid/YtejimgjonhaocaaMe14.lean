/-
  Make at whatever arguments; acts as plain data, in memory; act.
-/
import Derived.Test.YtejimgjonhaocaaMe11
namespace Go.Proofs.Ytejimgjonhaocaa
open Go.RowKit Go.Maps Go.Lib Go.Sort

/-- what Make answers -/
def mkE (dep : Nat) (L : List Md) (sz : Int) (t : Nat) (a : Int) : Int :=
  if ¬ (1 ≤ sz ∧ sz ≤ 1048576) ∨ ¬ (0 ≤ a ∧ a ≤ 1048576) ∨ (t = 0 ∧ a ≠ 0) then 1
  else if t = 0 then 0
  else match look L t with
    | none => 4
    | some u => if u.fixed = false then 11 else if dep ≤ deepL L t then 2 else 0
def mkI (dep nxt : Nat) (L : List Md) (sz : Int) (t : Nat) (a : Int) : Nat := if mkE dep L sz t a = 0 then nxt else 0
def mkN (dep nxt : Nat) (L : List Md) (sz : Int) (t : Nat) (a : Int) : Nat := if mkE dep L sz t a = 0 then nxt + 1 else nxt
def mkA (dep nxt : Nat) (L : List Md) (sz : Int) (t : Nat) (a : Int) : List Md := if mkE dep L sz t a = 0 then mkL L nxt t a.toNat sz.toNat else L
theorem mkE_zero {dep : Nat} {L : List Md} {sz a : Int} {t : Nat} (h : mkE dep L sz t a = 0) : (1 ≤ sz ∧ sz ≤ 1048576) ∧ (0 ≤ a ∧ a ≤ 1048576) ∧ (t = 0 → a = 0) ∧ (t ≠ 0 → ∃ u, look L t = some u ∧ u.fixed = true ∧ deepL L t < dep) := by
  unfold mkE at h
  split at h
  · cases h
  · rename_i h1
    have h2 : (1 ≤ sz ∧ sz ≤ 1048576) ∧ (0 ≤ a ∧ a ≤ 1048576) := by
      constructor
      · exact Classical.byContradiction fun q => h1 (.inl q)
      · exact Classical.byContradiction fun q => h1 (.inr (.inl q))
    have h3 : t = 0 → a = 0 := fun q => Classical.byContradiction fun q2 => h1 (.inr (.inr ⟨q, q2⟩))
    refine ⟨h2.1, h2.2, h3, fun q => ?_⟩
    rw [if_neg q] at h
    cases hu : look L t with
    | none => rw [hu] at h; cases h
    | some u =>
      rw [hu] at h
      simp only [] at h
      split at h
      · cases h
      · rename_i hf
        split at h
        · cases h
        · rename_i hd
          exact ⟨u, rfl, by simpa using hf, by omega⟩
theorem Ok.mkA' {dep nxt : Nat} {L : List Md} (ho : Ok dep nxt L) (sz : Int) (t : Nat) (a : Int) : Ok dep (mkN dep nxt L sz t a) (mkA dep nxt L sz t a) := by
  unfold mkN mkA
  by_cases h : mkE dep L sz t a = 0
  · rw [if_pos h, if_pos h]
    obtain ⟨h1, h2, h3, h4⟩ := mkE_zero h
    refine ho.mk' ?_ ?_ (by omega) (by omega) (by omega)
    · by_cases q : t = 0
      · exact .inl q
      · obtain ⟨u, e, f, _⟩ := h4 q; exact .inr ⟨u, e, f⟩
    · by_cases q : t = 0
      · subst q; rw [deepL_none ho.look_zero]; exact ho.d1
      · obtain ⟨u, e, f, g⟩ := h4 q; exact g
  · rw [if_neg h, if_neg h]; exact ho
section
set_option maxRecDepth 20000
set_option maxHeartbeats 1600000
variable {w w' : World} {tb mb dep nxt N : Nat} {L : List Md}
theorem make_any (h : TabG w tb mb dep nxt (rowG L) N) (ho : Ok dep nxt L) (hx : nxt ≤ 900000) (hN : N < 800000) (sz a : Int) {t : Nat} (ht : t < T64) :
    Calls Try.prog 23 #[.pointer (some ⟨tb, 0, none⟩), .int .i64 sz, .int .u64 (t : Int), .int .i64 a] w fun e w' => e = .returned (.tuple #[.int .u64 (mkI dep nxt L sz t a : Nat), .int .i64 (mkE dep L sz t a)]) ∧ TabG w' tb mb dep (mkN dep nxt L sz t a) (rowG (mkA dep nxt L sz t a)) (N + 2) ∧ Kept (Off tb mb) w w' := by
  have low : ∀ (x : Int) (e : Ending) (w' : World), mkE dep L sz t a = x → x ≠ 0 → e = .returned (.tuple #[.int .u64 0, .int .i64 x]) ∧ Below w.heap.size w w' → e = .returned (.tuple #[.int .u64 (mkI dep nxt L sz t a : Nat), .int .i64 (mkE dep L sz t a)]) ∧ TabG w' tb mb dep (mkN dep nxt L sz t a) (rowG (mkA dep nxt L sz t a)) (N + 2) ∧ Kept (Off tb mb) w w' := fun x e w' hx h0 ⟨he, hb⟩ => by
    have h1 : ¬ mkE dep L sz t a = 0 := by rw [hx]; exact h0
    unfold mkI mkN mkA
    rw [if_neg h1, if_neg h1, if_neg h1, hx]
    exact ⟨he, (h.below hb).mono (by omega), ⟨hb.os, hb.tape, hb.output, hb.size, fun b hlt _ => hb.block b hlt⟩⟩
  by_cases hbad : ¬ (1 ≤ sz ∧ sz ≤ 1048576) ∨ ¬ (0 ≤ a ∧ a ≤ 1048576) ∨ (t = 0 ∧ a ≠ 0)
  · exact (make_bad h sz a ht hbad).mono fun e w' q => low 1 e w' (by unfold mkE; rw [if_pos hbad]) (by decide) q
  have h1 : 1 ≤ sz ∧ sz ≤ 1048576 := Classical.byContradiction fun q => hbad (.inl q)
  have h2 : 0 ≤ a ∧ a ≤ 1048576 := Classical.byContradiction fun q => hbad (.inr (.inl q))
  have h3 : t = 0 → a = 0 := fun q => Classical.byContradiction fun q2 => hbad (.inr (.inr ⟨q, q2⟩))
  have good : mkE dep L sz t a = 0 → deepL L t < dep → (t ≠ 0 → ∃ u, look L t = some u ∧ u.fixed = true) → Calls Try.prog 23 #[.pointer (some ⟨tb, 0, none⟩), .int .i64 sz, .int .u64 (t : Int), .int .i64 a] w fun e w' => e = .returned (.tuple #[.int .u64 (mkI dep nxt L sz t a : Nat), .int .i64 (mkE dep L sz t a)]) ∧ TabG w' tb mb dep (mkN dep nxt L sz t a) (rowG (mkA dep nxt L sz t a)) (N + 2) ∧ Kept (Off tb mb) w w' := fun e hd hu => by
    obtain ⟨s', rfl⟩ : ∃ k : Nat, sz = (k : Int) := ⟨sz.toNat, by omega⟩
    obtain ⟨a', rfl⟩ : ∃ k : Nat, a = (k : Int) := ⟨a.toNat, by omega⟩
    have := make_ok (sz := s') (a := a') h ho hx hN (by omega) (by omega) ht (fun q => by have := h3 q; omega) hu hd
    refine this.mono fun e' w' ⟨he, hT, hk⟩ => (?_ : e' = .returned (.tuple #[.int .u64 (mkI dep nxt L s' t a' : Nat), .int .i64 (mkE dep L s' t a')]) ∧ TabG w' tb mb dep (mkN dep nxt L s' t a') (rowG (mkA dep nxt L s' t a')) (N + 2) ∧ Kept (Off tb mb) w w')
    unfold mkI mkN mkA
    rw [if_pos e, if_pos e, if_pos e, e]
    exact ⟨he, by simpa using hT, hk⟩
  by_cases h0 : t = 0
  · refine good ?_ ?_ (fun q => absurd h0 q)
    · unfold mkE; rw [if_neg hbad, if_pos h0]
    · subst h0; rw [deepL_none ho.look_zero]; exact ho.d1
  · cases hu : look L t with
    | none => exact (make_none h h1 h2 ht h0 hu).mono fun e w' q => low 4 e w' (by unfold mkE; rw [if_neg hbad, if_neg h0, hu]) (by decide) q
    | some u =>
      cases hf : u.fixed with
      | false => exact (make_read h h1 h2 ht h0 hu hf).mono fun e w' q => low 11 e w' (by unfold mkE; rw [if_neg hbad, if_neg h0, hu]; simp [hf]) (by decide) q
      | true =>
        by_cases hd : dep ≤ deepL L t
        · exact (make_many h ho (by omega) h1 h2 ht h0 hu hf hd).mono fun e w' q => low 2 e w' (by unfold mkE; rw [if_neg hbad, if_neg h0, hu]; simp [hf, hd]) (by decide) q
        · exact good (by unfold mkE; rw [if_neg hbad, if_neg h0, hu]; simp [hf, hd]) (by omega) (fun _ => ⟨u, hu, hf⟩)
end

/-- an act of a play -/
structure PAct where
  op : Int
  a : Nat
  n : Int
  off : Int
  bare : Bool
def actV (x : PAct) : Value := .agg #[.int .i64 x.op, .int .u64 (x.a : Int), .int .i64 x.n, .int .i64 x.off, .bool x.bare]
/-- an act in memory, its five cells from o on in block b -/
structure ActAt (w : World) (b o : Nat) (x : PAct) : Prop where
  c0 : w.cell? ⟨b, o, none⟩ = some (.int .i64 x.op)
  c1 : w.cell? ⟨b, o + 1, none⟩ = some (.int .u64 (x.a : Int))
  c2 : w.cell? ⟨b, o + 2, none⟩ = some (.int .i64 x.n)
  c3 : w.cell? ⟨b, o + 3, none⟩ = some (.int .i64 x.off)
  c4 : w.cell? ⟨b, o + 4, none⟩ = some (.bool x.bare)
  ha : x.a < T64
/-- the acts of a slice: at a nil one there is none -/
def ActsAt (w : World) (B : Nat) (A : Option Addr) (l : List PAct) : Prop := ∀ (k : Nat) x, l[k]? = some x → ∃ b o, A = some ⟨b, o, none⟩ ∧ b < B ∧ ActAt w b (o + k * 5) x
theorem ActsAt.below {w w' : World} {B : Nat} {A : Option Addr} {l : List PAct} (h : ActsAt w B A l) (hb : Below B w w') : ActsAt w' B A l := fun k x hk => by
  obtain ⟨b, o, e, hlt, q⟩ := h k x hk
  exact ⟨b, o, e, hlt, ⟨(hb.cell hlt).trans q.c0, (hb.cell hlt).trans q.c1, (hb.cell hlt).trans q.c2, (hb.cell hlt).trans q.c3, (hb.cell hlt).trans q.c4, q.ha⟩⟩
/-- the target that an act names -/
def tgtA (x : PAct) : Nat := if x.bare = true then 0 else x.a
def actN (dep nxt : Nat) (L : List Md) (x : PAct) : Nat := if x.op = 1 then mkN dep nxt L x.n (tgtA x) x.off else nxt
def actL (dep nxt : Nat) (L : List Md) (x : PAct) : List Md :=
  if x.op = 1 then mkA dep nxt L x.n (tgtA x) x.off else if x.op = 2 then fixL L x.a else if x.op = 3 then resA L x.a x.n else if x.op = 4 then aloneL L x.a else if x.op = 5 then dropA L x.a else L
theorem Ok.resA' {dep nxt : Nat} {L : List Md} (ho : Ok dep nxt L) (n : Nat) (s : Int) : Ok dep nxt (resA L n s) := by
  unfold resA
  by_cases h : resE L n s = 0
  · rw [if_pos h]
    have hs : 1 ≤ s.toNat ∧ s.toNat ≤ 1048576 := by
      unfold resE at h
      cases hm : look L n with
      | none => rw [hm] at h; cases h
      | some m =>
        rw [hm] at h
        simp only [] at h
        split at h
        · cases h
        · split at h
          · cases h
          · rename_i q
            have := (ho.size m (look_mem hm).1).1
            omega
    exact ho.res n hs.1 hs.2
  · rw [if_neg h]; exact ho
theorem Ok.dropA' {dep nxt : Nat} {L : List Md} (ho : Ok dep nxt L) (n : Nat) : Ok dep nxt (dropA L n) := by
  unfold dropA
  by_cases h : dropE L n = 0
  · rw [if_pos h]
    refine ho.drop ?_
    unfold dropE at h
    cases hm : look L n with
    | none => rw [hm] at h; cases h
    | some m =>
      rw [hm] at h
      simp only [] at h
      split at h
      · cases h
      · omega
  · rw [if_neg h]; exact ho
theorem Ok.act {dep nxt : Nat} {L : List Md} (ho : Ok dep nxt L) (x : PAct) : Ok dep (actN dep nxt L x) (actL dep nxt L x) := by
  unfold actN actL
  by_cases h1 : x.op = 1
  · rw [if_pos h1, if_pos h1]; exact ho.mkA' _ _ _
  rw [if_neg h1, if_neg h1]
  by_cases h2 : x.op = 2
  · rw [if_pos h2]; exact ho.fix _
  rw [if_neg h2]
  by_cases h3 : x.op = 3
  · rw [if_pos h3]; exact ho.resA' _ _
  rw [if_neg h3]
  by_cases h4 : x.op = 4
  · rw [if_pos h4]; exact ho.alone _
  rw [if_neg h4]
  by_cases h5 : x.op = 5
  · rw [if_pos h5]; exact ho.dropA' _
  rw [if_neg h5]
  exact ho
theorem actN_le (dep nxt : Nat) (L : List Md) (x : PAct) : nxt ≤ actN dep nxt L x ∧ actN dep nxt L x ≤ nxt + 1 := by
  unfold actN mkN
  split
  · split <;> omega
  · omega
end Go.Proofs.Ytejimgjonhaocaa
