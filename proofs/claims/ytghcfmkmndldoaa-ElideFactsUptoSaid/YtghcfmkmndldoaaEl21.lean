/-
  copied (elide's): a fact with a value of its own. (Fa6's text, turned.)
-/
import Derived.Test.YtghcfmkmndldoaaFa4
namespace Go.Proofs.Ytghcfmkmndldoaa
open Go.RowKit Go.Sort Go.Lib

section
set_option maxRecDepth 100000
set_option maxHeartbeats 4000000
theorem ecopied_any (f : Fc) (V : Value) (w : World) (hV : Vb w w.heap.size V f.2.2) (hl : f.2.2.length ≤ 1099511627776) :
    Calls Try.prog 52 #[fcV f V] w fun e w' => ∃ V', e = .returned (fcV f V') ∧ Own w' w.heap.size V' f.2.2 ∧ Below w.heap.size w w' := by
  obtain ⟨k, s, x⟩ := f
  dsimp only at hV hl ⊢
  unfold fcV
  dsimp only
  obtain ⟨A, c, rfl, hc, hA, hr⟩ := hV
  obtain ⟨W, hW⟩ : ∃ W, W = (w.alloc (.cells #[.string k, .int .u64 (s : Int), .slice A x.length c] 50)).alloc (.cells #[.string ⟨#[]⟩, .int .u64 0, .slice none 0 0] 50) := ⟨_, rfl⟩
  have e1 : (w.alloc (.cells #[.string k, .int .u64 (s : Int), .slice A x.length c] 50)).heap.size = w.heap.size + 1 := by simp
  have ka : Cells W w.heap.size 50 [.string k, .int .u64 (s : Int), .slice A x.length c] := by rw [hW]; exact (Cells.new w _ _).alloc _
  have kb : Cells W (w.heap.size + 1) 50 [.string ⟨#[]⟩, .int .u64 0, .slice none 0 0] := by rw [hW, ← e1]; exact Cells.new _ _ _
  have hB : Below w.heap.size w W := by rw [hW]; exact ((Below.refl _ _).alloc (Nat.le_refl _) _).alloc (by simp) _
  have p2 : W.cell? ⟨w.heap.size, 2, none⟩ = some (.slice A x.length c) := ka.cell rfl
  have Hcl := Lib.hid (clone_any A c x W W.heap.size ((hr.below hB).wide hB.size) (Nat.le_refl _) hl)
  have Hk : Hid (Cells W w.heap.size 50 [.string k, .int .u64 (s : Int), .slice A x.length c] ∧ Cells W (w.heap.size + 1) 50 [.string ⟨#[]⟩, .int .u64 0, .slice none 0 0] ∧ Below w.heap.size w W) := ⟨ka, kb, hB⟩
  clear ka kb e1 hr hB hl hA hc
  go_enter Try.func52, Try.ntmps52
  go_wp2_with fail
  rw [← hW]
  clear hW p2
  refine Hcl.out.mono ?_
  rintro e w1 ⟨V', rfl, ho1, hb1⟩
  obtain ⟨ka, kb, hB⟩ := Hk.out
  have ka1 := ka.move (hb1.block _ ka.lt)
  have kb1 := kb.move (hb1.block _ kb.lt)
  have ka2 : Cells (w1.setCell ⟨w.heap.size, 2, none⟩ V') w.heap.size 50 [.string k, .int .u64 (s : Int), V'] := ka1.set 2 V'
  have q0 : (w1.setCell ⟨w.heap.size, 2, none⟩ V').cell? ⟨w.heap.size, 0, none⟩ = some (.string k) := ka2.cell rfl
  have q1 : (w1.setCell ⟨w.heap.size, 2, none⟩ V').cell? ⟨w.heap.size, 1, none⟩ = some (.int .u64 (s : Int)) := ka2.cell rfl
  have q2 : (w1.setCell ⟨w.heap.size, 2, none⟩ V').cell? ⟨w.heap.size, 2, none⟩ = some V' := ka2.cell rfl
  have q3 : w1.cell? ⟨w.heap.size, 2, none⟩ = some (.slice A x.length c) := ka1.cell rfl
  have q4 : w1.frozen? ⟨w.heap.size, 2, none⟩ = false := ka1.frozen 2
  have kb2 : Cells (w1.setCell ⟨w.heap.size, 2, none⟩ V') (w.heap.size + 1) 50 [.string ⟨#[]⟩, .int .u64 0, .slice none 0 0] := kb1.move (Below.heap_setCell _ _ _ _ (by show w.heap.size + 1 ≠ w.heap.size; omega))
  have hbel : Below w.heap.size w (w1.setCell ⟨w.heap.size, 2, none⟩ V') := (hB.trans (hb1.mono hB.size)).setCell (Nat.le_refl _) _
  have ho2 : Own (w1.setCell ⟨w.heap.size, 2, none⟩ V') w.heap.size V' x := (ho1.wide (by have := ka.lt; omega)).move fun g hg => Below.heap_setCell _ _ _ _ (fun e => by
    have e' : g = w.heap.size := e
    have := (ho1.lt g hg).1
    have := ka.lt
    omega)
  have H2 : Hid (Cells (w1.setCell ⟨w.heap.size, 2, none⟩ V') (w.heap.size + 1) 50 [.string ⟨#[]⟩, .int .u64 0, .slice none 0 0] ∧ Below w.heap.size w (w1.setCell ⟨w.heap.size, 2, none⟩ V') ∧ Own (w1.setCell ⟨w.heap.size, 2, none⟩ V') w.heap.size V' x) := ⟨kb2, hbel, ho2⟩
  obtain ⟨A1, c1, rfl, _⟩ := ho1.rb
  clear Hcl Hk ka kb hB hb1 ka1 kb1 ka2 kb2 hbel ho2 ho1
  go_upto_region 2 with fail
  generalize w1.setCell ⟨w.heap.size, 2, none⟩ (.slice A1 x.length c1) = W2 at *
  clear q3 q4
  have r0 := H2.out.1.cell (i := 0) rfl
  have r1 := H2.out.1.cell (i := 1) rfl
  have r2 := H2.out.1.cell (i := 2) rfl
  have f0 := H2.out.1.frozen 0
  have f1 := H2.out.1.frozen 1
  have f2 := H2.out.1.frozen 2
  go_wp2_with fail
  have h3 : Cells (((W2.setCell ⟨w.heap.size + 1, 0, none⟩ (.string k)).setCell ⟨w.heap.size + 1, 1, none⟩ (.int .u64 (s : Int))).setCell ⟨w.heap.size + 1, 2, none⟩ (.slice A1 x.length c1)) (w.heap.size + 1) 50 [.string k, .int .u64 (s : Int), .slice A1 x.length c1] := ((H2.out.1.set 0 _).set 1 _).set 2 _
  have hb3 : Below w.heap.size w (((W2.setCell ⟨w.heap.size + 1, 0, none⟩ (.string k)).setCell ⟨w.heap.size + 1, 1, none⟩ (.int .u64 (s : Int))).setCell ⟨w.heap.size + 1, 2, none⟩ (.slice A1 x.length c1)) := ((H2.out.2.1.setCell (Nat.le_succ _) _).setCell (Nat.le_succ _) _).setCell (Nat.le_succ _) _
  have hty : ∀ g, (Value.slice A1 x.length c1).ownBlock = some g → g ≠ w.heap.size + 1 := fun g hg e => by
    rcases H2.out.2.2.2 with ⟨hv, _⟩ | ⟨g', cap, cur, hv, _, hgg, _⟩
    · rw [hv] at hg; cases hg
    · rw [hv] at hg
      cases hg
      subst e
      have := H2.out.1
      unfold Cells at this
      rw [this] at hgg
      cases hgg
  have ho3 : Own (((W2.setCell ⟨w.heap.size + 1, 0, none⟩ (.string k)).setCell ⟨w.heap.size + 1, 1, none⟩ (.int .u64 (s : Int))).setCell ⟨w.heap.size + 1, 2, none⟩ (.slice A1 x.length c1)) w.heap.size (.slice A1 x.length c1) x :=
    H2.out.2.2.move fun g hg => ((Below.heap_setCell _ _ _ _ (hty g hg)).trans (Below.heap_setCell _ _ _ _ (hty g hg))).trans (Below.heap_setCell _ _ _ _ (hty g hg))
  generalize (((W2.setCell ⟨w.heap.size + 1, 0, none⟩ (.string k)).setCell ⟨w.heap.size + 1, 1, none⟩ (.int .u64 (s : Int))).setCell ⟨w.heap.size + 1, 2, none⟩ (.slice A1 x.length c1)) = W3 at *
  have q0 := h3.cell (i := 0) rfl
  have q1 := h3.cell (i := 1) rfl
  have q2 := h3.cell (i := 2) rfl
  exact bodyPost_ret (v := .agg #[.string k, .int .u64 (s : Int), .slice A1 x.length c1]) (by simp [results, Try.results52, go_sem, q0, q1, q2]) rfl ⟨_, rfl, ho3, hb3⟩
end
end Go.Proofs.Ytghcfmkmndldoaa
