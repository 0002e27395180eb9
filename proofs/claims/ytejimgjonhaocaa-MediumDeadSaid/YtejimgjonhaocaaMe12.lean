/-
  MediumChains, plain: chains where nothing is moved.
-/
import Derived.Test.YtejimgjonhaocaaMe11
namespace Go.Proofs.Ytejimgjonhaocaa
open Go.RowKit Go.Maps Go.Lib Go.Sort

/-- all mediums are of one size, and lie at the beginning -/
def Flat (sz : Nat) (L : List Md) : Prop := ∀ m ∈ L, m.off = 0 ∧ m.size = sz
theorem Flat.nil (sz : Nat) : Flat sz [] := fun m h => by cases h
theorem Flat.turn {sz : Nat} {L : List Md} (h : Flat sz L) {g : Md → Md} (hg : ∀ m, m.off = 0 ∧ m.size = sz → (g m).off = 0 ∧ (g m).size = sz) (n : Nat) : Flat sz (chg L n g) := fun m hm => by
  obtain ⟨a, ha, e⟩ := mem_chg hm
  rw [e]
  split
  · exact hg a (h a ha)
  · exact h a ha
theorem Flat.mk' {sz : Nat} {L : List Md} (h : Flat sz L) (id t : Nat) : Flat sz (mkL L id t 0 sz) := fun m hm => by
  rcases List.mem_append.1 hm with q | q
  · exact h m q
  · rw [List.mem_singleton.1 q]; exact ⟨rfl, rfl⟩
theorem chain_flat {sz b : Nat} {L : List Md} (hd : ∀ m ∈ L, m.tgt < m.id) (h0 : look L 0 = none) (hf : Flat sz L) (hb : b < sz) : ∀ n : Nat,
    (chainB L n b).length = deepL L n ∧ (∀ (k : Nat) (p : Nat × Nat), (chainB L n b)[k]? = some p → p.2 = b ∧ p.1 ≤ n) ∧ ∀ (k : Nat) (p q : Nat × Nat), (chainB L n b)[k]? = some p → (chainB L n b)[k + 1]? = some q → q.1 < p.1 := by
  intro n
  induction n using Nat.strongRecOn with
  | ind n ih =>
    cases hm : look L n with
    | none => rw [chainB_none hm, deepL_none hm]; exact ⟨rfl, fun k p h => by simp at h, fun k p q h => by simp at h⟩
    | some m =>
      obtain ⟨q1, q2⟩ := look_mem hm
      have hlt := hd m q1
      obtain ⟨f1, f2⟩ := hf m q1
      obtain ⟨i1, i2, i3⟩ := ih m.tgt (by omega)
      rw [chainB_some hd h0 hm, deepL_some hd h0 hm, if_pos (by omega), f1, Nat.add_zero]
      refine ⟨by simp only [List.length_cons]; omega, fun k p hk => ?_, fun k p q hp hq => ?_⟩
      · cases k with
        | zero => simp at hk; subst hk; exact ⟨rfl, Nat.le_refl _⟩
        | succ k => have := i2 k p (by simpa using hk); exact ⟨this.1, by omega⟩
      · cases k with
        | zero =>
          simp at hp; subst hp
          have := i2 0 q (by simpa using hq)
          show q.1 < n
          omega
        | succ k => exact i3 k p q (by simpa using hp) (by simpa using hq)
/-- MediumChains under way -/
structure ChAt (w wr : World) (tb mb dep sz i nxt top : Nat) (L : List Md) (N : Nat) : Prop where
  tab : TabG wr tb mb dep nxt (rowG L) N
  ok : Ok dep nxt L
  flat : Flat sz L
  top : ∃ m, look L top = some m
  hN : N ≤ 8 * (i + 1)
  hn : nxt = i + 2
  bel : Below w.heap.size w wr
  h1 : w.heap.size ≤ tb
  h2 : w.heap.size ≤ mb
  hi : i ≤ 199
/-- a step that turns the table alone -/
theorem ChAt.off {w wr w' : World} {tb mb : Nat} (hb : Below w.heap.size w wr) (h1 : w.heap.size ≤ tb) (h2 : w.heap.size ≤ mb) (hk : Kept (Off tb mb) wr w') : Below w.heap.size w w' :=
  hb.trans (hk.to_below (fun b hlt => ⟨by omega, by omega⟩) hb.size)
theorem ChAt.below {w wr w' : World} {tb mb dep sz i nxt top N : Nat} {L : List Md} (h : ChAt w wr tb mb dep sz i nxt top L N) (hb : Below wr.heap.size wr w') : ChAt w w' tb mb dep sz i nxt top L N :=
  ⟨h.tab.below hb, h.ok, h.flat, h.top, h.hN, h.hn, h.bel.trans (hb.mono h.bel.size), h.h1, h.h2, h.hi⟩
theorem haveE_some {L : List Md} {n : Nat} {m : Md} (h : look L n = some m) (x : Int) : haveE L n x = x := by unfold haveE; rw [h]; rfl
theorem look_fix {L : List Md} {n : Nat} {m : Md} (h : look L n = some m) : look (fixL L n) n = some (gFix m) := by
  unfold fixL; rw [look_chg (g := gFix) (fun _ => rfl), h]; simp
theorem look_alone {L : List Md} {n : Nat} {m : Md} (h : look L n = some m) : look (aloneL L n) n = some (gAlone m) := by
  unfold aloneL; rw [look_chg gAlone_id, h]; simp
theorem deep_alone {dep nxt : Nat} {L : List Md} (ho : Ok dep nxt L) {n : Nat} {m : Md} (h : look L n = some m) : deepL (aloneL L n) n = 1 := by
  have ho2 := ho.alone n
  rw [deepL_some ho2.down ho2.look_zero (look_alone h)]
  show 1 + deepL (aloneL L n) 0 = 1
  rfl
theorem Flat.fix {sz : Nat} {L : List Md} (h : Flat sz L) (n : Nat) : Flat sz (fixL L n) := h.turn (g := gFix) (fun _ q => q) n
theorem Flat.alone {sz : Nat} {L : List Md} (h : Flat sz L) (n : Nat) : Flat sz (aloneL L n) := h.turn (g := gAlone) (fun _ q => ⟨rfl, q.2⟩) n
end Go.Proofs.Ytejimgjonhaocaa
