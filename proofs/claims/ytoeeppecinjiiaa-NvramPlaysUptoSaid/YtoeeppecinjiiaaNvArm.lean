/-
  A write is armed.
-/
import Derived.Test.YtoeeppecinjiiaaNv17
namespace Go.Proofs.Ytoeeppecinjiiaa
open Go.RowKit

theorem arm_facts {w w1 : World} {O : Nat → Option Tag} {pw m : Nat} {P : Pow} {nv : Nat} {D : Dev} {picks : List Int} {A2 : Option Addr} {c2 : Nat} (h : SysAt w O pw P nv D) (hb : Below w.heap.size w w1)
    (hv : OwnV w1 w.heap.size 3 (.slice A2 picks.length c2) (picks.map (Value.int .i64))) (hri : RI w1 w1.heap.size A2 picks) (hc : picks.length ≤ c2) (hp : picks.length ≤ 1099511627776) :
    ∃ O', SysAt ((w1.setCell ⟨pw, 3, none⟩ (.int .i64 (m : Int))).setCell ⟨pw, 4, none⟩ (.slice A2 picks.length c2)) O' pw { P with left := m, picks := picks } nv D ∧
      Ext w O ((w1.setCell ⟨pw, 3, none⟩ (.int .i64 (m : Int))).setCell ⟨pw, 4, none⟩ (.slice A2 picks.length c2)) O' := by
  obtain ⟨dv, A, c, h1, h2, h3, h4, h5, h6, h7⟩ := h.pow
  have hpw := h1.lt
  have kb : Kept (fun _ => True) w w1 := (Kept.refl _ w).below hb
  have hk : Kept (fun b => b ≠ pw) w ((w1.setCell ⟨pw, 3, none⟩ (.int .i64 (m : Int))).setCell ⟨pw, 4, none⟩ (.slice A2 picks.length c2)) := ((kb.mono fun _ _ _ => trivial).setCell (fun h => h rfl) _).setCell (fun h => h rfl) _
  have hk1 : Kept (fun b => b ≠ pw) w1 ((w1.setCell ⟨pw, 3, none⟩ (.int .i64 (m : Int))).setCell ⟨pw, 4, none⟩ (.slice A2 picks.length c2)) := ((Kept.refl _ w1).setCell (fun h => h rfl) _).setCell (fun h => h rfl) _
  have hA2 : ∀ ad, A2 = some ad → w.heap.size ≤ ad.block ∧ ad.block < w1.heap.size := fun ad e => hv.ge ad.block (by rw [e]; rfl)
  obtain ⟨O', hO'⟩ : ∃ O' : Nat → Option Tag, O' = fun b => if b < w.heap.size then O b else if A2.map (·.block) = some b then some .picks else none := ⟨_, rfl⟩
  have o1 : ∀ b, b < w.heap.size → O' b = O b := fun b hb => by rw [hO']; simp only [if_pos hb]
  have o2 : ∀ b, w.heap.size ≤ b → O' b = if A2.map (·.block) = some b then some .picks else none := fun b hb => by rw [hO']; simp only [if_neg (show ¬ b < w.heap.size by omega)]
  clear hO'
  have hd : ∀ b t, O b = some t → t ≠ .pw → b ≠ pw := fun b t hb n e => n (by rw [e, h2] at hb; cases hb; rfl)
  have hag : Agree (fun t => t ≠ .pw) w O ((w1.setCell ⟨pw, 3, none⟩ (.int .i64 (m : Int))).setCell ⟨pw, 4, none⟩ (.slice A2 picks.length c2)) O' := fun b t hlt hb ht => ⟨hk.block b hlt (hd b t hb ht), (o1 b hlt).trans hb⟩
  refine ⟨O', ⟨fun b hb => ?_, h.dev.keep h.fresh hk.size hag (by intro e; cases e) (by intro e; cases e) (by intro e; cases e) (by intro e; cases e), h.ok, dv, A2, c2, ?_, (o1 pw hpw).trans h2, ?_, fun g hg => (o1 g (h3.ge g hg).2).trans (h4 g hg), ?_, fun ad he => ?_, hc, hp⟩, hk.mono (fun b _ hb e => by rw [e, h2] at hb; cases hb), o1⟩
  · by_cases q : b < w.heap.size
    · exact Nat.lt_of_lt_of_le q hk.size
    · rw [o2 b (by omega)] at hb
      by_cases q2 : A2.map (·.block) = some b
      · rcases A2 with _ | ad
        · cases q2
        · cases q2
          exact Nat.lt_of_lt_of_le (hA2 ad rfl).2 hk1.size
      · rw [if_neg q2] at hb; exact absurd rfl hb
  · have q1 : Cells w1 pw 58 [dv, .bool P.off, .int .i64 (P.writes : Int), .int .i64 (P.left : Int), .slice A P.picks.length c] := h1.move (kb.block pw hpw trivial)
    exact (q1.set 3 (.int .i64 (m : Int))).set 4 (.slice A2 picks.length c2)
  · exact h3.move fun g hg => hk.block g (h3.ge g hg).2 (hd g _ (h4 g hg) (by intro e; cases e))
  · exact (hri.keptN hk1 (fun _ ad he e => by have := hA2 ad he; omega) (Nat.le_refl _)).wide hk1.size
  · rw [o2 _ (hA2 ad he).1, he]
    exact if_pos rfl

def armP (P : Pow) (n : Int) (picks : List Int) : Pow := { P with left := (max n 1).toNat, picks := picks }
set_option maxRecDepth 20000 in
set_option maxHeartbeats 1000000 in
theorem arm_any (pw : Nat) (P : Pow) (nv : Nat) (D : Dev) (O : Nat → Option Tag) (n : Int) (A : Option Addr) (c : Nat) (picks : List Int) (w : World) (h : SysAt w O pw P nv D) (hr : RI w w.heap.size A picks) (hp : picks.length ≤ 1048576) :
    Calls Try.prog 17 #[.pointer (some ⟨pw, 0, none⟩), .int .i64 n, .slice A picks.length c] w (SysPost w O pw (armP P n picks) nv D (.tuple #[])) := by
  have Hcl := Lib.hid (cloneInts_any A c picks w w.heap.size hr (Nat.le_refl _) (by omega))
  obtain ⟨m, hm⟩ : ∃ m : Nat, m = (max n 1).toNat := ⟨_, rfl⟩
  have hmx : max n 1 = (m : Int) := by omega
  have Hfin : Hid (∀ w1 A2 c2, Below w.heap.size w w1 → OwnV w1 w.heap.size 3 (.slice A2 picks.length c2) (picks.map (Value.int .i64)) → RI w1 w1.heap.size A2 picks → picks.length ≤ c2 →
      SysPost w O pw (armP P n picks) nv D (.tuple #[]) (.returned (.tuple #[])) ((w1.setCell ⟨pw, 3, none⟩ (.int .i64 (m : Int))).setCell ⟨pw, 4, none⟩ (.slice A2 picks.length c2))) := by
    intro w1 A2 c2 hb hv hri hc
    obtain ⟨O', q1, q2⟩ := arm_facts (m := m) h hb hv hri hc (by omega)
    refine ⟨O', rfl, ?_, q2⟩
    unfold armP
    rw [← hm]
    exact q1
  obtain ⟨dv, Ap, cp, h1, _⟩ := h.pow
  have H1 := Lib.hid h1
  clear h hr hp h1
  by_cases hn1 : n < 1
  · obtain rfl : m = 1 := by omega
    have Hfin1 : Hid (∀ w1 A2 c2, Below w.heap.size w w1 → OwnV w1 w.heap.size 3 (.slice A2 picks.length c2) (picks.map (Value.int .i64)) → RI w1 w1.heap.size A2 picks → picks.length ≤ c2 →
      SysPost w O pw (armP P n picks) nv D (.tuple #[]) (.returned (.tuple #[])) ((w1.setCell ⟨pw, 3, none⟩ (.int .i64 1)).setCell ⟨pw, 4, none⟩ (.slice A2 picks.length c2))) := Hfin.out
    clear hm hmx
    go_enter Try.func17, Try.ntmps17
    go_wp2_with (go_at_call 30; refine Hcl.out.mono ?_; rintro e w1 ⟨v, rfl, hv, hb1⟩; obtain ⟨A2, c2, rfl, hc2, hri2⟩ := RI.of_own hv; have k1 : Cells w1 pw 58 _ := H1.out.move (hb1.block pw H1.out.lt); have c3 := k1.cell (i := 3) rfl; have c4 := k1.cell (i := 4) rfl; have f3 := k1.frozen 3; have f4 := k1.frozen 4; have Hp := Lib.hid (Hfin1.out w1 A2 c2 hb1 hv hri2 hc2); clear k1 hv hb1 hri2 hc2 Hcl)
    go_end0
    exact Hp.out
  · have em : (m : Int) = n := by omega
    rw [em] at Hfin
    have hn2 : 1 ≤ n := by omega
    clear hm hmx em hn1
    go_enter Try.func17, Try.ntmps17
    go_wp2_with (go_at_call 30; refine Hcl.out.mono ?_; rintro e w1 ⟨v, rfl, hv, hb1⟩; obtain ⟨A2, c2, rfl, hc2, hri2⟩ := RI.of_own hv; have k1 : Cells w1 pw 58 _ := H1.out.move (hb1.block pw H1.out.lt); have c3 := k1.cell (i := 3) rfl; have c4 := k1.cell (i := 4) rfl; have f3 := k1.frozen 3; have f4 := k1.frozen 4; have Hp := Lib.hid (Hfin.out w1 A2 c2 hb1 hv hri2 hc2); clear k1 hv hb1 hri2 hc2 Hcl)
    go_end0
    exact Hp.out
end Go.Proofs.Ytoeeppecinjiiaa
