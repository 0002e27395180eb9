/-
  The second saying's Arm.
-/
import Derived.Test.YtdnlikhfemhmeaaRClear
namespace Go.Proofs.Ytdnlikhfemhmeaa
open Go.RowKit

theorem rarm_facts {w W1 : World} {O : Nat → Option Tag} {pw m : Nat} {P : Pow} {ds : List (Nat × Drv)} {picks : List Int} {A2 : Option Addr} {c2 : Nat} (h : RSysAt w O pw P ds) (hk1 : Kept (fun b => b ≠ pw) w W1)
    (hc1 : ∀ dv x, Cells w pw 32 [.bool P.off, .int .i64 (P.left : Int), x, .int .i64 (P.writes : Int), dv] → Cells W1 pw 32 [.bool P.off, .int .i64 (m : Int), x, .int .i64 (P.writes : Int), dv])
    (hv : OwnV W1 w.heap.size 3 (.slice A2 picks.length c2) (picks.map (Value.int .i64))) (hp : picks.length ≤ 1099511627776) :
    ∃ O', RSysAt (W1.setCell ⟨pw, 2, none⟩ (.slice A2 picks.length c2)) O' pw { P with left := m, picks := picks } ds ∧ Ext w O (W1.setCell ⟨pw, 2, none⟩ (.slice A2 picks.length c2)) O' := by
  obtain ⟨dv, A, n, c, h1, h2, h3, h4, h5⟩ := h.pow
  have hpw := h1.lt
  have hk : Kept (fun b => b ≠ pw) w (W1.setCell ⟨pw, 2, none⟩ (.slice A2 picks.length c2)) := hk1.setCell (fun h => h rfl) _
  have hk2 : Kept (fun b => b ≠ pw) W1 (W1.setCell ⟨pw, 2, none⟩ (.slice A2 picks.length c2)) := (Kept.refl _ W1).setCell (fun h => h rfl) _
  obtain ⟨A3, c3, e3, hc3, hri⟩ := RI.of_own hv
  have eA : A2 = A3 := by injection e3
  have eC : c2 = c3 := by injection e3
  subst eA
  subst eC
  have hA2 : ∀ ad, A2 = some ad → w.heap.size ≤ ad.block ∧ ad.block < W1.heap.size := fun ad e => hv.ge ad.block (by rw [e]; rfl)
  obtain ⟨O', hO'⟩ : ∃ O' : Nat → Option Tag, O' = fun b => if b < w.heap.size then O b else if A2.map (·.block) = some b then some .picks else none := ⟨_, rfl⟩
  have o1 : ∀ b, b < w.heap.size → O' b = O b := fun b hb => by rw [hO']; simp only [if_pos hb]
  have o2 : ∀ b, w.heap.size ≤ b → O' b = if A2.map (·.block) = some b then some .picks else none := fun b hb => by rw [hO']; simp only [if_neg (show ¬ b < w.heap.size by omega)]
  clear hO'
  have hd : ∀ b t, O b = some t → t ≠ .pw → b ≠ pw := fun b t hb n e => n (by rw [e, h2] at hb; cases hb; rfl)
  have hag : Agree (fun t => t ≠ .pw) w O (W1.setCell ⟨pw, 2, none⟩ (.slice A2 picks.length c2)) O' := fun b t hlt hb ht => ⟨hk.block b hlt (hd b t hb ht), (o1 b hlt).trans hb⟩
  refine ⟨O', ⟨fun b hb => ?_, fun i d D hi => ⟨(h.drv i d D hi).1.keep hag (fun t ht => by intro e; subst e; cases ht), (h.drv i d D hi).2⟩, dv, A2, picks.length, c2, (hc1 _ _ h1).set 2 (.slice A2 picks.length c2), (o1 pw hpw).trans h2, ?_, fun g hg => (o1 g (h3.ge g hg).2).trans (h4 g hg), fun _ => ⟨rfl, ?_, hc3, hp, fun ad he => ?_⟩⟩, hk.mono (fun b _ hb e => by rw [e, h2] at hb; cases hb), o1⟩
  · by_cases q : b < w.heap.size
    · exact Nat.lt_of_lt_of_le q hk.size
    · rw [o2 b (by omega)] at hb
      by_cases q2 : A2.map (·.block) = some b
      · rcases A2 with _ | ad
        · cases q2
        · cases q2
          exact Nat.lt_of_lt_of_le (hA2 ad rfl).2 hk2.size
      · rw [if_neg q2] at hb; exact absurd rfl hb
  · exact h3.move fun g hg => hk.block g (h3.ge g hg).2 (hd g _ (h4 g hg) (by intro e; cases e))
  · exact (hri.kept hk2 (fun ad he e => by have := hA2 ad he; omega) (Nat.le_refl _)).wide hk2.size
  · rw [o2 _ (hA2 ad he).1, he]
    exact if_pos rfl

set_option maxRecDepth 20000 in
set_option maxHeartbeats 1000000 in
theorem rarm_any (pw : Nat) (P : Pow) (ds : List (Nat × Drv)) (O : Nat → Option Tag) (n : Int) (A : Option Addr) (c : Nat) (picks : List Int) (w : World) (h : RSysAt w O pw P ds) (hr : RI w w.heap.size A picks) (hA : picks ≠ [] → ∀ ad, A = some ad → O ad.block = none) (hp : picks.length ≤ 1048576) :
    Calls Try.prog 30 #[.pointer (some ⟨pw, 0, none⟩), .int .i64 n, .slice A picks.length c] w (RSysPost w O pw (armP P n picks) ds (.tuple #[])) := by
  obtain ⟨m, hm⟩ : ∃ m : Nat, m = (max n 1).toNat := ⟨_, rfl⟩
  obtain ⟨dv, Ap, np, cp, h1, h2, _⟩ := h.pow
  have hpw := h1.lt
  have hApw : picks ≠ [] → ∀ ad, A = some ad → ad.block ≠ pw := fun hn ad he e => by have := hA hn ad he; rw [e, h2] at this; cases this
  obtain ⟨wa, hwa⟩ : ∃ wa, wa = w.setCell ⟨pw, 1, none⟩ (.int .i64 (m : Int)) := ⟨_, rfl⟩
  have hsa : wa.heap.size = w.heap.size := by rw [hwa]; simp [World.setCell]
  have hka : Kept (fun b => b ≠ pw) w wa := by rw [hwa]; exact (Kept.refl _ w).setCell (fun h => h rfl) _
  have hca : Cells wa pw 32 [.bool P.off, .int .i64 (m : Int), .slice Ap np cp, .int .i64 (P.writes : Int), dv] := by rw [hwa]; exact h1.set 1 (.int .i64 (m : Int))
  have hra : RI wa wa.heap.size A picks := (hr.keptN hka hApw (Nat.le_refl _)).wide hka.size
  have Hm : Hid (OwnV (wa.alloc (.cells #[] 3)) wa.heap.size 3 (.slice (some ⟨wa.heap.size, 0, none⟩) 0 0) []) := World.ownsRow_made wa #[] 0 (Nat.le_refl _) (by simp [maxLen]) (by simp)
  have Hc : Hid (∀ k u, (picks.map (Value.int .i64))[k]? = some u → ∃ ad', A = some ad' ∧ (wa.alloc (.cells #[] 3)).cell? (ad'.add k) = some u) := by
    intro k u hu
    rw [List.getElem?_map] at hu
    rcases hx : picks[k]? with _ | x
    · rw [hx] at hu; cases hu
    · rw [hx] at hu
      cases hu
      obtain ⟨ad', e, hlt, hc⟩ := hra k x hx
      exact ⟨ad', e, (World.cell?_alloc_lt wa _ (ad'.add k) (by rw [add_block]; exact hlt)).trans hc⟩
  have Hl : Hid (picks.length ≤ 1048576) := hp
  have Hfin : Hid (∀ v1 W1, OwnV W1 wa.heap.size 3 v1 ([] ++ picks.map (Value.int .i64)) → (wa.alloc (.cells #[] 3)).grownBy W1 (some wa.heap.size) → W1.cell? ⟨pw, 2, none⟩ = some (.slice Ap np cp) ∧ W1.frozen? ⟨pw, 2, none⟩ = false ∧ (∃ A1 n1 c1, v1 = .slice A1 n1 c1) ∧
      RSysPost w O pw (armP P n picks) ds (.tuple #[]) (.returned (.tuple #[])) (W1.setCell ⟨pw, 2, none⟩ v1)) := by
    intro v1 W1 hown hg
    have hk1 : Kept (fun b => b ≠ pw) w W1 := by
      refine ⟨hg.os.trans hka.os, hg.tape.trans hka.tape, hg.output.trans hka.output, Nat.le_trans hka.size (Nat.le_trans (by simp) hg.size), fun b hb hn => ?_⟩
      rw [hg.block b (by simp; omega) (by intro e; cases e; omega), Below.heap_alloc wa _ b (by omega)]
      exact hka.block b hb hn
    have bp : W1.heap[pw]? = wa.heap[pw]? := by
      rw [hg.block pw (by simp; omega) (by intro e; cases e; omega)]
      exact Below.heap_alloc wa _ pw (by omega)
    have hown2 : OwnV W1 w.heap.size 3 v1 (picks.map (Value.int .i64)) := by rw [← hsa]; simpa using hown
    obtain ⟨A1, c1, e1, _⟩ := RI.of_own hown2
    subst e1
    obtain ⟨O', q1, q2⟩ := rarm_facts (m := m) h hk1 (fun dv x hc => by
      have q := hc.set 1 (.int .i64 (m : Int))
      rw [← hwa] at q
      exact Cells.move q bp) hown2 (by omega)
    have k9 := hca.move bp
    refine ⟨k9.cell rfl, k9.frozen _, ⟨_, _, _, rfl⟩, O', rfl, ?_, q2⟩
    unfold armP
    rw [← hm]
    exact q1
  have Hsa := Lib.hid hsa
  have b1 := h1.cell (i := 1) rfl
  have b2 := h1.frozen 1
  clear h h1 h2 hr hA hp hApw hka hca hra hpw hsa
  by_cases hn1 : n < 1
  · obtain rfl : m = 1 := by omega
    have hwa' : wa = w.setCell ⟨pw, 1, none⟩ (.int .i64 1) := hwa
    clear hm hwa
    go_enter Try.func30, Try.ntmps30
    go_upto_region 3 with fail
    rw [← hwa']
    clear hwa' b1 b2
    go_wp2_with (at_builtin; refine app_many rfl (.tmp 13) (.tmp 14) 29 3 rfl Try.underlying29 (.int .i64 0) 8 info_int rfl wa.heap.size _ [] rfl Hm.out A picks.length c (picks.map (Value.int .i64)) rfl (by simp) Hc.out (by intro u hu; simp only [List.mem_map] at hu; obtain ⟨x, _, rfl⟩ := hu; rfl) (by have := Hl.out; simp; omega) (by have := Hl.out; simp; omega) (by simp) ?_; intro v1 W1 hown hg hb; obtain ⟨x1, x2, ⟨A1, n1, c1, rfl⟩, hfin⟩ := Hfin.out v1 W1 hown hg; have Hfin2 := Lib.hid hfin; clear hown hg hb hfin)
    go_end0
    exact Hfin2.out
  · have em : (m : Int) = n := by omega
    rw [em] at hwa
    have hn2 : 1 ≤ n := by omega
    clear hm em hn1
    go_enter Try.func30, Try.ntmps30
    go_upto_region 3 with fail
    rw [← hwa]
    clear hwa b1 b2
    go_wp2_with (at_builtin; refine app_many rfl (.tmp 13) (.tmp 14) 29 3 rfl Try.underlying29 (.int .i64 0) 8 info_int rfl wa.heap.size _ [] rfl Hm.out A picks.length c (picks.map (Value.int .i64)) rfl (by simp) Hc.out (by intro u hu; simp only [List.mem_map] at hu; obtain ⟨x, _, rfl⟩ := hu; rfl) (by have := Hl.out; simp; omega) (by have := Hl.out; simp; omega) (by simp) ?_; intro v1 W1 hown hg hb; obtain ⟨x1, x2, ⟨A1, n1, c1, rfl⟩, hfin⟩ := Hfin.out v1 W1 hown hg; have Hfin2 := Lib.hid hfin; clear hown hg hb hfin)
    go_end0
    exact Hfin2.out
end Go.Proofs.Ytdnlikhfemhmeaa
