/-
  The writer: Add.
-/
import Derived.Test.YtlficcdbnmheeaaDoorSg8
import Derived.OwnWalk
import Derived.Test.YtlficcdbnmheeaaDoorKSg11
namespace Go.Proofs.YtlficcdbnmheeaaDoor
open Go.RowKit Go.Sort Go.Lib

/-- n rows are told by bytes b behind a writer's rest -/
def Told (w w' : World) (wb base k c : Nat) (P G : Int) (id t : Nat) (v : Value) (rest b : List UInt8) (n g : Nat) (v' : Value) : Prop :=
  (∃ B, w.heap.size ≤ B ∧ B ≤ w'.heap.size ∧ RMM w' w.heap.size B (some ⟨g, 0, none⟩) (rowsM k c G id t (cutN (rest ++ b) (k * c) n)) ∧ (n = 0 ∨ ∀ x, v'.ownBlock = some x → B ≤ x)) ∧ WrAt w' wb base k c P G id (t + n) v' ((rest ++ b).drop (n * (k * c))) ∧
      Kept (fun x => x ≠ wb ∧ v.ownBlock ≠ some x) w w' ∧ (v'.ownBlock = v.ownBlock ∨ ∀ x, v'.ownBlock = some x → w.heap.size ≤ x)
section
set_option maxRecDepth 20000
set_option maxHeartbeats 4000000
variable {w w' w1 : World} {wb base k c : Nat} {P G : Int} {id t : Nat} {v v' : Value} {rest b : List UInt8} {n g : Nat}
theorem Told.gr (hg : Gr w w1) (h : Told w1 w' wb base k c P G id t v rest b n g v') : Told w w' wb base k c P G id t v rest b n g v' := by
  have hs : w.heap.size ≤ w1.heap.size := hg.below.size
  obtain ⟨⟨B, h1, h2, h3, h4⟩, h5, h6, h7⟩ := h
  refine ⟨⟨B, by omega, h2, h3.low hs, h4⟩, h5, ((Kept.refl _ w).below hg.below).trans h6, h7.imp (fun q => q) fun q x hx => by have := q x hx; omega⟩
theorem Gr.kept (K : Nat → Prop) (hg : Gr w w1) : Kept K w w1 := (Kept.refl _ w).below hg.below
theorem wadd_any (h : WrAt w wb base k c P G id t v rest) (hT : Tab w) (A : Option Addr) (cp : Nat) (b : List UInt8) (hr : RB w w.heap.size A b) (hcp : b.length ≤ cp) (hbase : base ≤ w.heap.size) :
    Calls Tryd.prog 32 #[.pointer (some ⟨wb, 0, none⟩), .slice A b.length cp] w fun e w' =>
      (b.length = 0 ∧ e = .returned (.tuple #[.int .i64 0, .slice none 0 0, .int .i64 1]) ∧ Gr w w') ∨
      (1 ≤ b.length ∧ roomS k P G < ((t * (k * c) + rest.length : Nat) : Int) + (b.length : Int) ∧ e = .returned (.tuple #[.int .i64 0, .slice none 0 0, .int .i64 5]) ∧ Gr w w') ∨
      (1 ≤ b.length ∧ ((t * (k * c) + rest.length : Nat) : Int) + (b.length : Int) ≤ roomS k P G ∧ ∃ n g v', n = (rest ++ b).length / (k * c) ∧
        e = .returned (.tuple #[.int .i64 ((t * (k * c) + rest.length : Nat) : Int), .slice (some ⟨g, 0, none⟩) n n, .int .i64 0]) ∧ Told w w' wb base k c P G id t v rest b n g v') := by
  obtain ⟨h1, h2, h3, h4, h5, h6, h7, h8, h9, hrv⟩ := h.facts
  have hht := h.ht
  obtain ⟨n, hn⟩ : ∃ n, n = (rest ++ b).length / (k * c) := ⟨_, rfl⟩
  have hroomS : roomS k P G = ((k * c : Nat) : Int) * (P - 1) := by unfold roomS; rw [hrv]
  have HL : Hid (∀ W, Gr w W → Calls Tryd.prog 35 #[.pointer (some ⟨wb, 0, none⟩)] W fun e w' => e = .returned (.int .i64 (roomS k P G - ((t * (k * c) + rest.length : Nat) : Int))) ∧ Gr W w') := fun W hg => left_any (h.below hg.below) (by omega)
  have HZ : Hid (∀ W, Gr w W → Calls Tryd.prog 34 #[.pointer (some ⟨wb, 0, none⟩)] W fun e w' => e = .returned (.int .i64 ((t * (k * c) + rest.length : Nat) : Int)) ∧ Gr W w') := fun W hg => size_any (h.below hg.below)
  have HW : Hid (1 ≤ b.length → ((t * (k * c) + rest.length : Nat) : Int) + (b.length : Int) ≤ roomS k P G → ∀ W, Gr w W → Calls Tryd.prog 53 #[.pointer (some ⟨wb, 0, none⟩), .slice A b.length cp] W fun e w' => ∃ g v', e = .returned (.tuple #[.slice (some ⟨g, 0, none⟩) n n, .int .i64 0]) ∧ Told w w' wb base k c P G id t v rest b n g v') := fun hb1 hbr W hg => by
    obtain ⟨p, hp⟩ : ∃ p : Nat, P - 1 = (p : Int) := ⟨(P - 1).toNat, by omega⟩
    have hbr2 : t * (k * c) + rest.length + b.length ≤ (k * c) * p := by
      rw [hroomS, hp] at hbr
      have h11 : ((k * c : Nat) : Int) * (p : Int) = (((k * c) * p : Nat) : Int) := by simp
      rw [h11] at hbr
      omega
    have hp2 : (k * c) * p ≤ 2097120 * 4095 := Nat.mul_le_mul h9 (by omega)
    have hdv : n ≤ p - t := by
      rw [hn, List.length_append]
      refine (Nat.div_le_iff_le_mul_add_pred (by omega)).2 ?_
      have h12 : (k * c) * p = (k * c) * (p - t) + (k * c) * t := by rw [← Nat.mul_add]; congr 1; omega
      have h13 : t * (k * c) = (k * c) * t := Nat.mul_comm _ _
      omega
    refine (grow_any (h.below hg.below) (hT.below hg.below hT.pos) A cp b ((hr.below hg.below).wide hg.below.size) hb1 hcp (Nat.le_trans hbase hg.below.size) n hn (by omega) (by omega)).mono ?_
    rintro e w2 ⟨g, v', he, hq⟩
    exact ⟨g, v', he, Told.gr hg hq⟩
  have Hgr := Lib.hid (Gr.refl w)
  have Hn := Lib.hid hn
  have hS : ((t * (k * c) + rest.length : Nat) : Int) ≤ 17179869184 := by
    have := Nat.mul_le_mul (show t ≤ 4095 by omega) h9
    have := h.hr
    omega
  have hR0 : 0 ≤ roomS k P G ∧ roomS k P G ≤ 17179869184 := by
    rw [hroomS]
    obtain ⟨p, hp⟩ : ∃ p : Nat, P - 1 = (p : Int) := ⟨(P - 1).toNat, by omega⟩
    rw [hp]
    have hp2 : (k * c) * p ≤ 2097120 * 4095 := Nat.mul_le_mul h9 (by omega)
    have h11 : ((k * c : Nat) : Int) * (p : Int) = (((k * c) * p : Nat) : Int) := by simp
    rw [h11]
    omega
  clear h h1 h2 h3 h4 h5 h6 h7 h8 h9 hrv hht hT hr hbase hroomS hn
  generalize t * (k * c) + rest.length = S at *
  generalize roomS k P G = RR at *
  obtain ⟨bl, hbl⟩ : ∃ bl, bl = b.length := ⟨_, rfl⟩
  rw [← hbl] at hcp HW ⊢
  clear hbl
  obtain ⟨r0, r1⟩ := hR0
  by_cases hb0 : bl = 0
  · have hb0' : (bl : Int) = 0 := by omega
    go_enter Tryd.func32, Tryd.ntmps32
    go_wp2_with fail
    go_ret3
    exact .inl ⟨hb0, rfl, Hgr.out⟩
  · have hb1 : 1 ≤ bl := by omega
    have hb1' : (1 : Int) ≤ (bl : Int) := by omega
    have HL1 := Lib.hid (HL.out w Hgr.out)
    by_cases hf : RR < (S : Int) + (bl : Int)
    · clear HW HZ HL
      go_enter Tryd.func32, Tryd.ntmps32
      go_wp2_with fail
      refine HL1.out.mono ?_
      rintro e w1 ⟨rfl, hg1⟩
      have H1 := Lib.hid hg1
      clear hg1 HL1
      go_wp2_with fail
      go_ret3
      exact .inr (.inl ⟨hb1, hf, rfl, H1.out⟩)
    · have hf2 : (S : Int) + (bl : Int) ≤ RR := by omega
      have HW1 := Lib.hid (HW.out hb1 hf2)
      clear HW HL
      go_enter Tryd.func32, Tryd.ntmps32
      go_wp2_with fail
      refine HL1.out.mono ?_
      rintro e w1 ⟨rfl, hg1⟩
      have H1 := Lib.hid hg1
      have HZ1 := Lib.hid (HZ.out w1 hg1)
      clear hg1 HL1 HZ
      go_wp2_with fail
      refine HZ1.out.mono ?_
      rintro e w2 ⟨rfl, hg2⟩
      have H2 := Lib.hid (H1.out.trans hg2)
      have HW2 := Lib.hid (HW1.out w2 H2.out)
      clear hg2 HZ1 HW1
      go_wp2_with fail
      refine HW2.out.mono ?_
      rintro e w3 ⟨g, v', rfl, h3⟩
      have H3 := Lib.hid h3
      clear h3 HW2
      go_wp2_with fail
      go_ret3
      exact .inr (.inr ⟨hb1, hf2, n, g, v', Hn.out, rfl, H3.out⟩)
end
end Go.Proofs.YtlficcdbnmheeaaDoor

/-
  The writer: Pad.
-/
namespace Go.Proofs.YtlficcdbnmheeaaDoor
open Go.RowKit Go.Sort Go.Lib

section
set_option maxRecDepth 20000
set_option maxHeartbeats 4000000
variable {w w' w1 : World} {wb base k c : Nat} {P G : Int} {id t : Nat} {v v' : Value} {rest b : List UInt8} {n g : Nat}
theorem wpad_any (h : WrAt w wb base k c P G id t v rest) (hT : Tab w) (hbase : base ≤ w.heap.size) (hroom : rest.length ≠ 0 → (t : Int) + 1 < P) :
    Calls Tryd.prog 30 #[.pointer (some ⟨wb, 0, none⟩)] w fun e w' =>
      (rest.length = 0 ∧ e = .returned (.slice none 0 0) ∧ Gr w w') ∨
      (1 ≤ rest.length ∧ ∃ g v', e = .returned (.slice (some ⟨g, 0, none⟩) 1 1) ∧ Told w w' wb base k c P G id t v rest (List.replicate (k * c - rest.length) 0) 1 g v') := by
  obtain ⟨h1, h2, h3, h4, h5, h6, h7, h8, h9, hrv⟩ := h.facts
  have hht := h.ht
  have hrr := h.hr
  obtain ⟨A0, cr, hv0, _⟩ := h.own.rb
  have Hrow := Lib.hid fun W => row_any (k : Int) P G W
  rw [hrv] at Hrow
  unfold shV at Hrow
  obtain ⟨R, hR⟩ : ∃ R, R = k * c := ⟨_, rfl⟩
  obtain ⟨m, hm⟩ : ∃ m, m = k * c - rest.length := ⟨_, rfl⟩
  obtain ⟨rl, hrl⟩ : ∃ rl, rl = rest.length := ⟨_, rfl⟩
  obtain ⟨cs, Hcs, hmk0⟩ := make_run m (by omega)
  have c5 := h.wr.cell (i := 5) rfl
  have HS : Hid (∀ W, Gr w.drew W → (W.cell? ⟨wb, 0, none⟩ = some (.int .i64 (k : Int)) ∧ W.cell? ⟨wb, 1, none⟩ = some (.int .i64 P) ∧ W.cell? ⟨wb, 2, none⟩ = some (.int .i64 G)) ∧ W.cell? ⟨wb, 5, none⟩ = some (.slice A0 rl cr)) := fun W hg => by
    have hC : Cells W wb 98 _ := (h.wr : Cells w.drew wb _ _).move (hg.below.block _ h.wr.lt)
    refine ⟨⟨hC.cell rfl, hC.cell rfl, hC.cell rfl⟩, ?_⟩
    rw [hrl, ← hv0]
    exact hC.cell rfl
  have HW : Hid (1 ≤ rl → ∀ W, Gr w.drew W → Calls Tryd.prog 53 #[.pointer (some ⟨wb, 0, none⟩), .slice (some ⟨W.heap.size, 0, none⟩) m m] (W.alloc (.cells cs 5)) fun e w' => ∃ g v', e = .returned (.tuple #[.slice (some ⟨g, 0, none⟩) 1 1, .int .i64 0]) ∧
      (w'.cell? ⟨wb, 0, none⟩ = some (.int .i64 (k : Int)) ∧ w'.cell? ⟨wb, 1, none⟩ = some (.int .i64 P) ∧ w'.cell? ⟨wb, 2, none⟩ = some (.int .i64 G)) ∧ Told w w' wb base k c P G id t v rest (List.replicate m 0) 1 g v') := fun hr1 W hg => by
    have hG : Gr w (W.alloc (.cells cs 5)) := ((Gr.drewN w 1).trans hg).trans (Gr.alloc _ _)
    have hb := RB.new W cs 5 (List.replicate m 0) (by rw [Hcs.out])
    have hsz : (W.alloc (.cells cs 5)).heap.size = W.heap.size + 1 := by simp
    rw [← hsz] at hb
    have hlen : (rest ++ List.replicate m (0 : UInt8)).length = k * c := by rw [List.length_append, List.length_replicate]; omega
    have := grow_any (h.below hG.below) (hT.below hG.below hT.pos) _ m _ hb (by rw [List.length_replicate]; omega) (by rw [List.length_replicate]; exact Nat.le_refl _) (Nat.le_trans hbase hG.below.size) 1 (by rw [hlen, Nat.div_self (by omega)]) (by have := hroom (by omega); omega) (by rw [List.length_replicate]; omega)
    rw [List.length_replicate] at this
    refine this.mono ?_
    rintro e w2 ⟨g, v', he, hq⟩
    have hT' : Told w w2 wb base k c P G id t v rest (List.replicate m 0) 1 g v' := Told.gr hG hq
    have hwr := hT'.2.1.wr
    exact ⟨g, v', he, ⟨hwr.cell rfl, hwr.cell rfl, hwr.cell rfl⟩, hT'⟩
  have Hgr := Lib.hid (Gr.refl w)
  rw [hv0, ← hrl] at c5
  rw [← hR] at Hrow
  rw [← hm, ← hrl]
  have hval : IntKind.i64.wrap ((R : Int) - (rl : Int)) = (m : Int) := by
    rw [IntKind.wrap_i64]
    omega
  have hmk : ∀ u : World, (Instr.makeSlice 25 (.int .i64 (IntKind.i64.wrap ((R : Int) - (rl : Int)))) (.int .i64 (IntKind.i64.wrap ((R : Int) - (rl : Int))))).run Tryd.prog u = .ok (.slice (some ⟨u.heap.size, 0, none⟩) m m) (u.alloc (.cells cs 5)) := fun u => by rw [hval]; exact hmk0 u
  have hrl9 : (rl : Int) ≤ 2097120 := by omega
  have hR9 : (R : Int) ≤ 2097120 := by omega
  clear h h1 h2 h3 h4 h5 h6 h7 h8 h9 hrv hht hrr hv0 hT hbase hroom hR hm hrl hmk0 hval
  by_cases hb0 : rl = 0
  · have hb0' : (rl : Int) = 0 := by omega
    go_enter Tryd.func30, Tryd.ntmps30
    go_wp2_with fail
    go_ret
    exact .inl ⟨hb0, rfl, Hgr.out⟩
  · have hb1 : 1 ≤ rl := by omega
    have hb1' : (1 : Int) ≤ (rl : Int) := by omega
    have HW1 := Lib.hid (HW.out hb1)
    obtain ⟨k0, k5⟩ := HS.out w.drew (Gr.refl _)
    clear HW
    go_enter Tryd.func30, Tryd.ntmps30
    go_upto_region 3 with fail
    refine wp_region_noPanic ?_
    refine wp_region_held_drew (S := fun X => X.cell? ⟨wb, 0, none⟩ = some (.int .i64 (k : Int)) ∧ X.cell? ⟨wb, 1, none⟩ = some (.int .i64 P) ∧ X.cell? ⟨wb, 2, none⟩ = some (.int .i64 G)) (by kernel_rfl) ?_ (fun hHeld => ?_)
    · try dsimp only
      first | exact k0 | exact j0 | exact j3 | exact p0
    refine wpAnyH_take (i := 0) (v := ?_) rfl (by kernel_rfl) (by kernel_rfl) (by kernel_rfl) (fun _ _ _ h => h) (Or.inl ⟨by rfl, ?_⟩) (by assumption) ?_
    rotate_left
    · intro w hSw
      try dsimp only at hSw
      simp only [List.getElem_toArray, List.getElem_cons_zero]
      go_simp
      try with_reducible rfl
    simp only [List.getElem_toArray, List.getElem_cons_zero]
    try simp only [Act.put]
    refine wpAnyH_take (i := 1) (v := ?_) rfl (by kernel_rfl) (by kernel_rfl) (by kernel_rfl) (fun _ _ _ h => h) (Or.inl ⟨by rfl, ?_⟩) (by assumption) ?_
    rotate_left
    · intro w hSw
      try dsimp only at hSw
      simp only [List.getElem_toArray, List.getElem_cons_zero]
      go_simp
      try with_reducible rfl
    simp only [List.getElem_toArray, List.getElem_cons_zero]
    try simp only [Act.put]
    refine wpAnyH_take (i := 2) (v := ?_) rfl (by kernel_rfl) (by kernel_rfl) (by kernel_rfl) (fun _ _ _ h => h) (Or.inl ⟨by rfl, ?_⟩) (by assumption) ?_
    rotate_left
    · intro w hSw
      try dsimp only at hSw
      simp only [List.getElem_toArray, List.getElem_cons_zero]
      go_simp
      try with_reducible rfl
    simp only [List.getElem_toArray, List.getElem_cons_zero]
    try simp only [Act.put]
    refine wpAnyH_take (i := 3) (v := ?_) rfl (by kernel_rfl) (by kernel_rfl) (by kernel_rfl) (fun _ _ _ h => h) (Or.inl ⟨by rfl, ?_⟩) (by assumption) ?_
    rotate_left
    · intro w hSw
      try dsimp only at hSw
      simp only [List.getElem_toArray, List.getElem_cons_zero]
      go_simp
      try with_reducible rfl
    simp only [List.getElem_toArray, List.getElem_cons_zero]
    try simp only [Act.put]
    refine wpAnyH_take (i := 4) (v := ?_) rfl (by kernel_rfl) (by kernel_rfl) (by kernel_rfl) (fun _ _ _ h => h) (Or.inl ⟨by rfl, ?_⟩) (by assumption) ?_
    rotate_left
    · intro w hSw
      try dsimp only at hSw
      simp only [List.getElem_toArray, List.getElem_cons_zero]
      go_simp
      try with_reducible rfl
    simp only [List.getElem_toArray, List.getElem_cons_zero]
    try simp only [Act.put]
    refine wpAnyH_take (i := 6) (v := ?_) rfl (by kernel_rfl) (by kernel_rfl) (by kernel_rfl) (fun _ _ _ h => h) (Or.inl ⟨by rfl, ?_⟩) (by assumption) ?_
    rotate_left
    · intro w hSw
      try dsimp only at hSw
      simp only [List.getElem_toArray, List.getElem_cons_zero]
      go_simp
      try with_reducible rfl
    simp only [List.getElem_toArray, List.getElem_cons_zero]
    try simp only [Act.put]
    refine wpAnyH_take (i := 7) (v := ?_) rfl (by kernel_rfl) (by kernel_rfl) (by kernel_rfl) (fun _ _ _ h => h) (Or.inl ⟨by rfl, ?_⟩) (by assumption) ?_
    rotate_left
    · intro w hSw
      try dsimp only at hSw
      simp only [List.getElem_toArray, List.getElem_cons_zero]
      go_simp
      try with_reducible rfl
    simp only [List.getElem_toArray, List.getElem_cons_zero]
    try simp only [Act.put]
    refine wpAnyH_take (i := 8) (v := ?_) rfl (by kernel_rfl) (by kernel_rfl) (by kernel_rfl) (fun _ _ _ h => h) (Or.inl ⟨by rfl, ?_⟩) (by assumption) ?_
    rotate_left
    · intro w hSw
      try dsimp only at hSw
      simp only [List.getElem_toArray, List.getElem_cons_zero]
      go_simp
      try with_reducible rfl
    simp only [List.getElem_toArray, List.getElem_cons_zero]
    try simp only [Act.put]
    refine wpAnyH_ready (rs := [5, 9]) (by kernel_rfl) (by simp) ?_
    refine AllReadyH.cons rfl (fun K hK => ?_) ?_
    · skip
      simp only [List.getElem_toArray, List.getElem_cons_zero]
      go_simp
      go_at_call 14
      refine (Hrow.out _).mono ?_
      rintro e w1 ⟨rfl, hg1⟩
      obtain ⟨j0, j5⟩ := HS.out w1 hg1
      have j3 := (HS.out _ (hg1.trans (Gr.alloc w1 (.cells cs 5)))).1
      have H1 := Lib.hid hg1
      clear hg1
      refine hK.out _ _ ?_ (fun hHeld => ?_)
      · try dsimp only
        first | exact k0 | exact j0 | exact j3 | exact p0
      clear hK K
      try simp only [List.getElem_toArray, List.getElem_cons_succ, List.getElem_cons_zero]
      try simp only [Act.put, List.setIfInBounds_toArray]
      refine wpAnyH_ready (rs := [9]) (by kernel_rfl) (by simp) ?_
      refine AllReadyH.cons rfl (fun K hK => ?_) ?_
      · skip
        simp only [List.getElem_toArray, List.getElem_cons_zero]
        go_simp
        refine hK.out _ _ ?_ (fun hHeld => ?_)
        · try dsimp only
          first | exact k0 | exact j0 | exact j3 | exact p0
        clear hK K
        try simp only [List.getElem_toArray, List.getElem_cons_succ, List.getElem_cons_zero]
        try simp only [Act.put, List.setIfInBounds_toArray]
        refine wpAnyH_take (i := 10) (v := ?_) rfl (by kernel_rfl) (by kernel_rfl) (by kernel_rfl) (fun _ _ _ h => h) (Or.inl ⟨by rfl, ?_⟩) (by assumption) ?_
        rotate_left
        · intro w hSw
          try dsimp only at hSw
          simp only [List.getElem_toArray, List.getElem_cons_succ, List.getElem_cons_zero]
          go_simp
          try with_reducible rfl
        simp only [List.getElem_toArray, List.getElem_cons_zero]
        try simp only [Act.put, List.setIfInBounds_toArray]
        refine wpAnyH_take (i := 11) (v := ?_) rfl (by kernel_rfl) (by kernel_rfl) (by kernel_rfl) (fun _ _ _ h => h) (Or.inl ⟨by rfl, ?_⟩) (by assumption) ?_
        rotate_left
        · intro w hSw
          try dsimp only at hSw
          simp only [List.getElem_toArray, List.getElem_cons_succ, List.getElem_cons_zero]
          go_simp
          try with_reducible rfl
        simp only [List.getElem_toArray, List.getElem_cons_zero]
        try simp only [Act.put, List.setIfInBounds_toArray]
        refine wpAnyH_ready (rs := [12]) (by kernel_rfl) (by simp) ?_
        refine AllReadyH.cons rfl (fun K hK => ?_) ?_
        · skip
          simp only [List.getElem_toArray, List.getElem_cons_succ, List.getElem_cons_zero]
          go_simp
          refine hK.out _ _ ?_ (fun hHeld => ?_)
          · try dsimp only
            first | exact k0 | exact j0 | exact j3 | exact p0
          clear hK K
          try simp only [List.getElem_toArray, List.getElem_cons_succ, List.getElem_cons_zero]
          try simp only [Act.put, List.setIfInBounds_toArray, List.set_cons_zero, List.set_cons_succ]
          refine wpAnyH_ready (rs := [13]) (by kernel_rfl) (by simp) ?_
          refine AllReadyH.cons rfl (fun K hK => ?_) ?_
          · skip
            simp only [List.getElem_toArray, List.getElem_cons_succ, List.getElem_cons_zero]
            go_simp
            go_at_call 53
            refine (HW1.out w1 H1.out).mono ?_
            rintro e w3 ⟨g, v', rfl, p0, h3⟩
            have H3 := Lib.hid h3
            clear h3
            refine hK.out _ _ ?_ (fun hHeld => ?_)
            · try dsimp only
              first | exact k0 | exact j0 | exact j3 | exact p0
            clear hK K
            try simp only [List.getElem_toArray, List.getElem_cons_succ, List.getElem_cons_zero]
            try simp only [Act.put, List.setIfInBounds_toArray, List.set_cons_zero, List.set_cons_succ]
            refine wpAnyH_take (i := 14) (v := ?_) rfl (by kernel_rfl) (by kernel_rfl) (by kernel_rfl) (fun _ _ _ h => h) (Or.inl ⟨by rfl, ?_⟩) (by assumption) ?_
            rotate_left
            · intro w hSw
              try dsimp only at hSw
              simp only [List.getElem_toArray, List.getElem_cons_succ, List.getElem_cons_zero]
              go_simp
              try with_reducible rfl
            simp only [List.getElem_toArray, List.getElem_cons_succ, List.getElem_cons_zero]
            try simp only [Act.put, List.setIfInBounds_toArray, List.set_cons_zero, List.set_cons_succ]
            refine wpAnyH_take (i := 15) (v := ?_) rfl (by kernel_rfl) (by kernel_rfl) (by kernel_rfl) (fun _ _ _ h => h) (Or.inl ⟨by rfl, ?_⟩) (by assumption) ?_
            rotate_left
            · intro w hSw
              try dsimp only at hSw
              simp only [List.getElem_toArray, List.getElem_cons_succ, List.getElem_cons_zero]
              go_simp
              try with_reducible rfl
            simp only [List.getElem_toArray, List.getElem_cons_succ, List.getElem_cons_zero]
            try simp only [Act.put, List.setIfInBounds_toArray, List.set_cons_zero, List.set_cons_succ]
            refine wpAnyH_take (i := 16) (v := ?_) rfl (by kernel_rfl) (by kernel_rfl) (by kernel_rfl) (fun _ _ _ h => h) (Or.inl ⟨by rfl, ?_⟩) (by assumption) ?_
            rotate_left
            · intro w hSw
              try dsimp only at hSw
              simp only [List.getElem_toArray, List.getElem_cons_succ, List.getElem_cons_zero]
              go_simp
              try with_reducible rfl
            simp only [List.getElem_toArray, List.getElem_cons_succ, List.getElem_cons_zero]
            try simp only [Act.put, List.setIfInBounds_toArray, List.set_cons_zero, List.set_cons_succ]
            refine wpAnyH_take (i := 17) (v := ?_) rfl (by kernel_rfl) (by kernel_rfl) (by kernel_rfl) (fun _ _ _ h => h) (Or.inl ⟨by rfl, ?_⟩) (by assumption) ?_
            rotate_left
            · intro w hSw
              try dsimp only at hSw
              simp only [List.getElem_toArray, List.getElem_cons_succ, List.getElem_cons_zero]
              go_simp
              try with_reducible rfl
            simp only [List.getElem_toArray, List.getElem_cons_succ, List.getElem_cons_zero]
            try simp only [Act.put, List.setIfInBounds_toArray, List.set_cons_zero, List.set_cons_succ]
            refine wpAnyH_take (i := 18) (v := ?_) rfl (by kernel_rfl) (by kernel_rfl) (by kernel_rfl) (fun _ _ _ h => h) (Or.inl ⟨by rfl, ?_⟩) (by assumption) ?_
            rotate_left
            · intro w hSw
              try dsimp only at hSw
              simp only [List.getElem_toArray, List.getElem_cons_succ, List.getElem_cons_zero]
              go_simp
              try with_reducible rfl
            simp only [List.getElem_toArray, List.getElem_cons_succ, List.getElem_cons_zero]
            try simp only [Act.put, List.setIfInBounds_toArray, List.set_cons_zero, List.set_cons_succ]
            refine wpAnyH_done (by kernel_rfl) ?_ _
            refine NoPanic.normal ?_
            go_wp2_with fail
            go_ret
            exact .inr ⟨hb1, g, v', rfl, H3.out⟩
          exact AllReadyH.nil
        exact AllReadyH.nil
      exact AllReadyH.nil
    refine AllReadyH.cons rfl (fun K hK => ?_) ?_
    · skip
      simp only [List.getElem_toArray, List.getElem_cons_zero]
      go_simp
      refine hK.out _ _ ?_ (fun hHeld => ?_)
      · try dsimp only
        first | exact k0 | exact j0 | exact j3 | exact p0
      clear hK K
      try simp only [List.getElem_toArray, List.getElem_cons_succ, List.getElem_cons_zero]
      try simp only [Act.put, List.setIfInBounds_toArray]
      refine wpAnyH_take (i := 10) (v := ?_) rfl (by kernel_rfl) (by kernel_rfl) (by kernel_rfl) (fun _ _ _ h => h) (Or.inl ⟨by rfl, ?_⟩) (by assumption) ?_
      rotate_left
      · intro w hSw
        try dsimp only at hSw
        simp only [List.getElem_toArray, List.getElem_cons_zero]
        go_simp
        try with_reducible rfl
      simp only [List.getElem_toArray, List.getElem_cons_zero]
      try simp only [Act.put, List.setIfInBounds_toArray]
      refine wpAnyH_ready (rs := [5]) (by kernel_rfl) (by simp) ?_
      refine AllReadyH.cons rfl (fun K hK => ?_) ?_
      · skip
        simp only [List.getElem_toArray, List.getElem_cons_zero]
        go_simp
        go_at_call 14
        refine (Hrow.out _).mono ?_
        rintro e w1 ⟨rfl, hg1⟩
        obtain ⟨j0, j5⟩ := HS.out w1 hg1
        have j3 := (HS.out _ (hg1.trans (Gr.alloc w1 (.cells cs 5)))).1
        have H1 := Lib.hid hg1
        clear hg1
        refine hK.out _ _ ?_ (fun hHeld => ?_)
        · try dsimp only
          first | exact k0 | exact j0 | exact j3 | exact p0
        clear hK K
        try simp only [List.getElem_toArray, List.getElem_cons_succ, List.getElem_cons_zero]
        try simp only [Act.put, List.setIfInBounds_toArray]
        refine wpAnyH_take (i := 11) (v := ?_) rfl (by kernel_rfl) (by kernel_rfl) (by kernel_rfl) (fun _ _ _ h => h) (Or.inl ⟨by rfl, ?_⟩) (by assumption) ?_
        rotate_left
        · intro w hSw
          try dsimp only at hSw
          simp only [List.getElem_toArray, List.getElem_cons_succ, List.getElem_cons_zero]
          go_simp
          try with_reducible rfl
        simp only [List.getElem_toArray, List.getElem_cons_zero]
        try simp only [Act.put, List.setIfInBounds_toArray]
        refine wpAnyH_ready (rs := [12]) (by kernel_rfl) (by simp) ?_
        refine AllReadyH.cons rfl (fun K hK => ?_) ?_
        · skip
          simp only [List.getElem_toArray, List.getElem_cons_succ, List.getElem_cons_zero]
          go_simp
          refine hK.out _ _ ?_ (fun hHeld => ?_)
          · try dsimp only
            first | exact k0 | exact j0 | exact j3 | exact p0
          clear hK K
          try simp only [List.getElem_toArray, List.getElem_cons_succ, List.getElem_cons_zero]
          try simp only [Act.put, List.setIfInBounds_toArray, List.set_cons_zero, List.set_cons_succ]
          refine wpAnyH_ready (rs := [13]) (by kernel_rfl) (by simp) ?_
          refine AllReadyH.cons rfl (fun K hK => ?_) ?_
          · skip
            simp only [List.getElem_toArray, List.getElem_cons_succ, List.getElem_cons_zero]
            go_simp
            go_at_call 53
            refine (HW1.out w1 H1.out).mono ?_
            rintro e w3 ⟨g, v', rfl, p0, h3⟩
            have H3 := Lib.hid h3
            clear h3
            refine hK.out _ _ ?_ (fun hHeld => ?_)
            · try dsimp only
              first | exact k0 | exact j0 | exact j3 | exact p0
            clear hK K
            try simp only [List.getElem_toArray, List.getElem_cons_succ, List.getElem_cons_zero]
            try simp only [Act.put, List.setIfInBounds_toArray, List.set_cons_zero, List.set_cons_succ]
            refine wpAnyH_take (i := 14) (v := ?_) rfl (by kernel_rfl) (by kernel_rfl) (by kernel_rfl) (fun _ _ _ h => h) (Or.inl ⟨by rfl, ?_⟩) (by assumption) ?_
            rotate_left
            · intro w hSw
              try dsimp only at hSw
              simp only [List.getElem_toArray, List.getElem_cons_succ, List.getElem_cons_zero]
              go_simp
              try with_reducible rfl
            simp only [List.getElem_toArray, List.getElem_cons_succ, List.getElem_cons_zero]
            try simp only [Act.put, List.setIfInBounds_toArray, List.set_cons_zero, List.set_cons_succ]
            refine wpAnyH_take (i := 15) (v := ?_) rfl (by kernel_rfl) (by kernel_rfl) (by kernel_rfl) (fun _ _ _ h => h) (Or.inl ⟨by rfl, ?_⟩) (by assumption) ?_
            rotate_left
            · intro w hSw
              try dsimp only at hSw
              simp only [List.getElem_toArray, List.getElem_cons_succ, List.getElem_cons_zero]
              go_simp
              try with_reducible rfl
            simp only [List.getElem_toArray, List.getElem_cons_succ, List.getElem_cons_zero]
            try simp only [Act.put, List.setIfInBounds_toArray, List.set_cons_zero, List.set_cons_succ]
            refine wpAnyH_take (i := 16) (v := ?_) rfl (by kernel_rfl) (by kernel_rfl) (by kernel_rfl) (fun _ _ _ h => h) (Or.inl ⟨by rfl, ?_⟩) (by assumption) ?_
            rotate_left
            · intro w hSw
              try dsimp only at hSw
              simp only [List.getElem_toArray, List.getElem_cons_succ, List.getElem_cons_zero]
              go_simp
              try with_reducible rfl
            simp only [List.getElem_toArray, List.getElem_cons_succ, List.getElem_cons_zero]
            try simp only [Act.put, List.setIfInBounds_toArray, List.set_cons_zero, List.set_cons_succ]
            refine wpAnyH_take (i := 17) (v := ?_) rfl (by kernel_rfl) (by kernel_rfl) (by kernel_rfl) (fun _ _ _ h => h) (Or.inl ⟨by rfl, ?_⟩) (by assumption) ?_
            rotate_left
            · intro w hSw
              try dsimp only at hSw
              simp only [List.getElem_toArray, List.getElem_cons_succ, List.getElem_cons_zero]
              go_simp
              try with_reducible rfl
            simp only [List.getElem_toArray, List.getElem_cons_succ, List.getElem_cons_zero]
            try simp only [Act.put, List.setIfInBounds_toArray, List.set_cons_zero, List.set_cons_succ]
            refine wpAnyH_take (i := 18) (v := ?_) rfl (by kernel_rfl) (by kernel_rfl) (by kernel_rfl) (fun _ _ _ h => h) (Or.inl ⟨by rfl, ?_⟩) (by assumption) ?_
            rotate_left
            · intro w hSw
              try dsimp only at hSw
              simp only [List.getElem_toArray, List.getElem_cons_succ, List.getElem_cons_zero]
              go_simp
              try with_reducible rfl
            simp only [List.getElem_toArray, List.getElem_cons_succ, List.getElem_cons_zero]
            try simp only [Act.put, List.setIfInBounds_toArray, List.set_cons_zero, List.set_cons_succ]
            refine wpAnyH_done (by kernel_rfl) ?_ _
            refine NoPanic.normal ?_
            go_wp2_with fail
            go_ret
            exact .inr ⟨hb1, g, v', rfl, H3.out⟩
          exact AllReadyH.nil
        exact AllReadyH.nil
      exact AllReadyH.nil
    exact AllReadyH.nil
end
end Go.Proofs.YtlficcdbnmheeaaDoor

/-
  A writer beside other memory: a tag for each block; what a step of one tag leaves.
-/
namespace Go.Proofs.YtlficcdbnmheeaaDoor
open Go.RowKit Go.Sort Go.Lib

/-- a step that turns blocks of one tag alone -/
structure Stp (O O' : Nat → Nat) (τ : Nat) (w w' : World) : Prop where
  os : w'.os = w.os
  tape : w'.tape = w.tape
  output : w'.output = w.output
  size : w.heap.size ≤ w'.heap.size
  tag : ∀ x, x < w.heap.size → O' x = O x
  block : ∀ x, x < w.heap.size → O x ≠ τ → w'.heap[x]? = w.heap[x]?
section
variable {O O' : Nat → Nat} {τ σ : Nat} {w w' : World} {base : Nat} {v v' : Value}
theorem Stp.below (O : Nat → Nat) (τ : Nat) (h : Below w.heap.size w w') : Stp O O τ w w' := ⟨h.os, h.tape, h.output, h.size, fun _ _ => rfl, fun x hx _ => h.block x hx⟩
theorem Stp.own {l : List UInt8} (s : Stp O O' τ w w') (h : Own w base v l) (ht : ∀ x, v.ownBlock = some x → O x = σ) (hn : σ ≠ τ) : Own w' base v l ∧ ∀ x, v.ownBlock = some x → O' x = σ :=
  ⟨h.move fun g hg => s.block g (h.lt g hg).2 (by rw [ht g hg]; exact hn), fun x hx => by rw [s.tag x (h.lt x hx).2]; exact ht x hx⟩
theorem Stp.ownV {e : TypeId} {xs : List Value} (s : Stp O O' τ w w') (h : OwnV w base e v xs) (ht : ∀ x, v.ownBlock = some x → O x = σ) (hn : σ ≠ τ) : OwnV w' base e v xs ∧ ∀ x, v.ownBlock = some x → O' x = σ :=
  ⟨h.move fun g hg => s.block g (h.ge g hg).2 (by rw [ht g hg]; exact hn), fun x hx => by rw [s.tag x (h.ge x hx).2]; exact ht x hx⟩
theorem Stp.cells {b : Nat} {t : TypeId} {cs : List Value} (s : Stp O O' τ w w') (h : Cells w b t cs) (ht : O b = σ) (hn : σ ≠ τ) : Cells w' b t cs ∧ O' b = σ :=
  ⟨h.move (s.block b h.lt (by rw [ht]; exact hn)), by rw [s.tag b h.lt]; exact ht⟩
/-- a row that grew is the only one that turned -/
theorem Stp.grown (O : Nat → Nat) (τ : Nat) (hg : w.grownBy w' v.ownBlock) (ht : ∀ x, v.ownBlock = some x → O x = τ) (hlt : ∀ x, v.ownBlock = some x → x < w.heap.size) (hv : v'.ownBlock = v.ownBlock ∨ v'.ownBlock = some w.heap.size) :
    ∃ O', Stp O O' τ w w' ∧ ∀ x, v'.ownBlock = some x → O' x = τ := by
  refine ⟨fun x => if x < w.heap.size then O x else τ, ⟨hg.os, hg.tape, hg.output, hg.size, fun x hx => if_pos hx, fun x hx hn => hg.block x hx fun e => hn (ht x e.symm)⟩, fun x hx => ?_⟩
  rcases hv with e | e
  · rw [e] at hx
    show (if x < w.heap.size then O x else τ) = τ
    rw [if_pos (hlt x hx)]
    exact ht x hx
  · rw [hx] at e
    cases e
    show (if w.heap.size < w.heap.size then _ else τ) = τ
    rw [if_neg (by omega)]
theorem Stp.bel {w0 : World} (s : Stp O O' τ w w') (hb : Below w0.heap.size w0 w) (hl : ∀ x, x < w0.heap.size → O x = 0) (h0 : 0 < τ) : Below w0.heap.size w0 w' ∧ ∀ x, x < w0.heap.size → O' x = 0 :=
  ⟨hb.trans ⟨s.os, s.tape, s.output, s.size, fun x hx => s.block x (Nat.lt_of_lt_of_le hx hb.size) (by rw [hl x hx]; omega)⟩, fun x hx => by rw [s.tag x (Nat.lt_of_lt_of_le hx hb.size)]; exact hl x hx⟩
/-! rows that are told -/
def RBT (w : World) (O : Nat → Nat) (A : Option Addr) (l : List UInt8) : Prop := ∀ (k : Nat) (x : UInt8), l[k]? = some x → ∃ ad, A = some ad ∧ O ad.block = 5 ∧ ad.block < w.heap.size ∧ w.cell? (ad.add k) = some (bv x)
def RT (w : World) (O : Nat → Nat) (A : Option Addr) (M : Mtx) : Prop := ∀ (k : Nat) (l : List UInt8), M[k]? = some l → ∃ (b o : Nat) (A' : Option Addr) (c : Nat), A = some ⟨b, o, none⟩ ∧ O b = 5 ∧ b < w.heap.size ∧ w.cell? ⟨b, o + k, none⟩ = some (.slice A' l.length c) ∧ RBT w O A' l ∧ l.length ≤ c
def RTM (w : World) (O : Nat → Nat) (A : Option Addr) (Ms : List Mtx) : Prop := ∀ (k : Nat) (M : Mtx), Ms[k]? = some M → ∃ (b o : Nat) (A' : Option Addr) (c : Nat), A = some ⟨b, o, none⟩ ∧ O b = 5 ∧ b < w.heap.size ∧ w.cell? ⟨b, o + k, none⟩ = some (.slice A' M.length c) ∧ RT w O A' M
def HsT (w : World) (O : Nat → Nat) (hs : List Value) (Ms : List Mtx) : Prop := hs.length = Ms.length ∧ ∀ (j : Nat) (h : Value) (M : Mtx), hs[j]? = some h → Ms[j]? = some M → ∃ A c, h = .slice A M.length c ∧ RT w O A M
theorem RBT.stp {A : Option Addr} {l : List UInt8} (h : RBT w O A l) (s : Stp O O' τ w w') (hn : 5 ≠ τ) : RBT w' O' A l := fun k x hx => by
  obtain ⟨ad, e, h1, h2, h3⟩ := h k x hx
  exact ⟨ad, e, by rw [s.tag _ h2]; exact h1, Nat.lt_of_lt_of_le h2 s.size, (World.cell?_of_block (by rw [add_block]; exact s.block _ h2 (by rw [h1]; exact hn))).trans h3⟩
theorem RT.stp {A : Option Addr} {M : Mtx} (h : RT w O A M) (s : Stp O O' τ w w') (hn : 5 ≠ τ) : RT w' O' A M := fun k l hl => by
  obtain ⟨b, o, A', c, e, h1, h2, h3, h4, h5⟩ := h k l hl
  exact ⟨b, o, A', c, e, by rw [s.tag _ h2]; exact h1, Nat.lt_of_lt_of_le h2 s.size, (World.cell?_of_block (s.block b h2 (by rw [h1]; exact hn))).trans h3, h4.stp s hn, h5⟩
theorem RTM.stp {A : Option Addr} {Ms : List Mtx} (h : RTM w O A Ms) (s : Stp O O' τ w w') (hn : 5 ≠ τ) : RTM w' O' A Ms := fun k l hl => by
  obtain ⟨b, o, A', c, e, h1, h2, h3, h4⟩ := h k l hl
  exact ⟨b, o, A', c, e, by rw [s.tag _ h2]; exact h1, Nat.lt_of_lt_of_le h2 s.size, (World.cell?_of_block (s.block b h2 (by rw [h1]; exact hn))).trans h3, h4.stp s hn⟩
theorem HsT.stp {hs : List Value} {Ms : List Mtx} (h : HsT w O hs Ms) (s : Stp O O' τ w w') (hn : 5 ≠ τ) : HsT w' O' hs Ms := ⟨h.1, fun j x M hx hM => by
  obtain ⟨A, c, e, q⟩ := h.2 j x M hx hM
  exact ⟨A, c, e, q.stp s hn⟩⟩
theorem RT.rm {A : Option Addr} {M : Mtx} (h : RT w O A M) : RM w w.heap.size A M := fun k l hl => by
  obtain ⟨b, o, A', c, e, _, h2, h3, h4, h5⟩ := h k l hl
  exact ⟨b, o, A', c, e, h2, h3, fun j x hx => by
    obtain ⟨ad, e, _, q2, q3⟩ := h4 j x hx
    exact ⟨ad, e, q2, q3⟩, h5⟩
theorem RML.rt {lo B : Nat} {A : Option Addr} {M : Mtx} (h : RML w lo B A M) (hB : B ≤ w.heap.size) (ht : ∀ x, lo ≤ x → x < B → O x = 5) : RT w O A M := fun k l hl => by
  obtain ⟨b, o, A', c, e, h1, h2, h3, h4, h5, h6⟩ := h k l hl
  refine ⟨b, o, A', c, e, ht b h1 h2, by omega, h3, fun j x hx => ?_, h5⟩
  obtain ⟨ad, e2, q1, q2⟩ := h4 j x hx
  exact ⟨ad, e2, ht _ (h6 ad e2 (by have := (List.getElem?_eq_some_iff.1 hx).1; omega)) q1, by omega, q2⟩
theorem RMM.rtm {lo B : Nat} {A : Option Addr} {Ms : List Mtx} (h : RMM w lo B A Ms) (hB : B ≤ w.heap.size) (ht : ∀ x, lo ≤ x → x < B → O x = 5) : RTM w O A Ms := fun k l hl => by
  obtain ⟨b, o, A', c, e, h1, h2, h3, h4⟩ := h k l hl
  exact ⟨b, o, A', c, e, ht b h1 h2, by omega, h3, h4.rt hB ht⟩
/-- the headers that lie there -/
theorem RTM.headers {g : Nat} {Ms : List Mtx} (h : RTM w O (some ⟨g, 0, none⟩) Ms) : ∃ us : List Value, us.length = Ms.length ∧ (∀ (j : Nat) (u : Value), us[j]? = some u → w.cell? ⟨g, j, none⟩ = some u) ∧ (∀ u ∈ us, u.oneCell' = true) ∧ HsT w O us Ms := by
  have hx : ∀ j : Fin Ms.length, ∃ u A c, u = Value.slice A (Ms[j]).length c ∧ w.cell? ⟨g, j, none⟩ = some u ∧ RT w O A Ms[j] := fun j => by
    obtain ⟨b, o, A', c, e, _, _, h3, h4⟩ := h j Ms[j] (List.getElem?_eq_getElem j.2)
    cases e
    rw [Nat.zero_add] at h3
    exact ⟨_, A', c, rfl, h3, h4⟩
  have hf : ∃ f : Fin Ms.length → Value, ∀ j, ∃ A c, f j = Value.slice A (Ms[j]).length c ∧ w.cell? ⟨g, j, none⟩ = some (f j) ∧ RT w O A Ms[j] := ⟨fun j => Classical.choose (hx j), fun j => Classical.choose_spec (hx j)⟩
  obtain ⟨f, hf⟩ := hf
  have hget : ∀ (j : Nat) (u : Value), (List.ofFn f)[j]? = some u → ∃ hj : j < Ms.length, u = f ⟨j, hj⟩ := fun j u hu => by
    have hj := (List.getElem?_eq_some_iff.1 hu).1
    rw [List.length_ofFn] at hj
    rw [List.getElem?_eq_getElem (by rw [List.length_ofFn]; exact hj), List.getElem_ofFn] at hu
    exact ⟨hj, (Option.some.inj hu).symm⟩
  refine ⟨List.ofFn f, List.length_ofFn, fun j u hu => ?_, fun u hu => ?_, List.length_ofFn, fun j u M hu hM => ?_⟩
  · obtain ⟨hj, rfl⟩ := hget j u hu
    obtain ⟨A, c, _, q, _⟩ := hf ⟨j, hj⟩
    exact q
  · obtain ⟨j, hj⟩ := List.getElem?_of_mem hu
    obtain ⟨hj', rfl⟩ := hget j u hj
    obtain ⟨A, c, e, _⟩ := hf ⟨j, hj'⟩
    rw [e]; rfl
  · obtain ⟨hj, rfl⟩ := hget j u hu
    obtain ⟨A, c, e, _, q⟩ := hf ⟨j, hj⟩
    rw [List.getElem?_eq_getElem hj] at hM
    cases hM
    exact ⟨A, c, e, q⟩
theorem HsT.append {h1 h2 : List Value} {M1 M2 : List Mtx} (a : HsT w O h1 M1) (b : HsT w O h2 M2) : HsT w O (h1 ++ h2) (M1 ++ M2) := ⟨by rw [List.length_append, List.length_append, a.1, b.1], fun j x M hx hM => by
  by_cases hj : j < h1.length
  · rw [List.getElem?_append_left hj] at hx
    rw [List.getElem?_append_left (by rw [← a.1]; exact hj)] at hM
    exact a.2 j x M hx hM
  · rw [List.getElem?_append_right (by omega)] at hx
    rw [List.getElem?_append_right (by rw [← a.1]; omega), ← a.1] at hM
    exact b.2 _ x M hx hM⟩
end
/-- what Add and Pad do to the writer, tagged -/
theorem Told.stp {w w' : World} {wb base k c : Nat} {P G : Int} {id t : Nat} {v v' : Value} {rest b : List UInt8} {n g : Nat} (O : Nat → Nat) (h : WrAt w wb base k c P G id t v rest) (hT : Told w w' wb base k c P G id t v rest b n g v')
    (h1 : O wb = 1) (h2 : ∀ x, v.ownBlock = some x → O x = 1) : ∃ O', Stp O O' 1 w w' ∧ O' wb = 1 ∧ (∀ x, v'.ownBlock = some x → O' x = 1) ∧ RTM w' O' (some ⟨g, 0, none⟩) (rowsM k c G id t (cutN (rest ++ b) (k * c) n)) := by
  obtain ⟨⟨B, q1, q2, q3, q4⟩, q5, q6, q7⟩ := hT
  have hwb := h.wr.lt
  refine ⟨fun x => if x < w.heap.size then O x else if x < B ∧ n ≠ 0 then 5 else 1, ⟨q6.os, q6.tape, q6.output, q6.size, fun x hx => if_pos hx, fun x hx hn => q6.block x hx ⟨fun e => hn (by rw [e]; exact h1), fun e => hn (h2 x e)⟩⟩, ?_, fun x hx => ?_, ?_⟩
  · show (if wb < w.heap.size then _ else _) = 1
    rw [if_pos hwb]; exact h1
  · show (if x < w.heap.size then O x else if x < B ∧ n ≠ 0 then 5 else 1) = 1
    rcases q7 with q7 | q7
    · rw [q7] at hx
      rw [if_pos (h.own.lt x hx).2]; exact h2 x hx
    · have := q7 x hx
      rw [if_neg (by omega), if_neg fun q => by
        rcases q4 with q4 | q4
        · exact q.2 q4
        · have := q4 x hx; omega]
  · by_cases hn : n = 0
    · intro j M hM
      have := (List.getElem?_eq_some_iff.1 hM).1
      rw [rowsM_len, cutN_len] at this
      omega
    · refine q3.rtm q2 fun x hx1 hx2 => ?_
      show (if x < w.heap.size then O x else if x < B ∧ n ≠ 0 then 5 else 1) = 5
      rw [if_neg (by omega), if_pos ⟨hx2, hn⟩]
/-- rows told behind rows told -/
theorem rows_join {k c : Nat} {G : Int} {id t n : Nat} {S b : List UInt8} (hS : t * (k * c) ≤ S.length) :
    rowsM k c G id 0 (cutN S (k * c) t) ++ rowsM k c G id t (cutN (S.drop (t * (k * c)) ++ b) (k * c) n) = rowsM k c G id 0 (cutN (S ++ b) (k * c) (t + n)) := by
  apply List.ext_getElem?
  intro j
  generalize k * c = R at *
  by_cases hj : j < t
  · have hle : (j + 1) * R ≤ t * R := Nat.mul_le_mul_right R hj
    rw [Nat.succ_mul] at hle
    rw [List.getElem?_append_left (by rw [rowsM_len, cutN_len]; exact hj), rowsM_get (by rw [cutN_len]; exact hj), rowsM_get (by rw [cutN_len]; omega)]
    have e1 : (cutN S R t).getD j [] = (S.drop (j * R)).take R := by rw [List.getD, cutN_get hj]; rfl
    have e2 : (cutN (S ++ b) R (t + n)).getD j [] = ((S ++ b).drop (j * R)).take R := by rw [List.getD, cutN_get (by omega)]; rfl
    rw [e1, e2, List.drop_append_of_le_length (by omega), List.take_append_of_le_length (by rw [List.length_drop]; omega)]
  · rw [List.getElem?_append_right (by rw [rowsM_len, cutN_len]; omega), rowsM_len, cutN_len]
    by_cases hj2 : j < t + n
    · rw [rowsM_get (by rw [cutN_len]; omega), rowsM_get (by rw [cutN_len]; exact hj2)]
      have e1 : (cutN (S.drop (t * R) ++ b) R n).getD (j - t) [] = ((S.drop (t * R) ++ b).drop ((j - t) * R)).take R := by rw [List.getD, cutN_get (by omega)]; rfl
      have e2 : (cutN (S ++ b) R (t + n)).getD j [] = ((S ++ b).drop (j * R)).take R := by rw [List.getD, cutN_get hj2]; rfl
      have e3 : (S ++ b).drop (j * R) = (S.drop (t * R) ++ b).drop ((j - t) * R) := by
        rw [← List.drop_append_of_le_length hS, List.drop_drop]
        congr 1
        rw [← Nat.add_mul]
        congr 1
        omega
      rw [e1, e2, e3, show (t : Int) + ((j - t : Nat) : Int) + 1 = ((0 : Nat) : Int) + (j : Int) + 1 by omega]
    · rw [List.getElem?_eq_none (by rw [rowsM_len, cutN_len]; omega), List.getElem?_eq_none (by rw [rowsM_len, cutN_len]; omega)]
end Go.Proofs.YtlficcdbnmheeaaDoor

/-
  SegHolds' memory: a writer, a stream, places, rows that were told.
-/
namespace Go.Proofs.YtlficcdbnmheeaaDoor
open Go.RowKit Go.Sort Go.Lib

structure HSt (w0 w : World) (O : Nat → Nat) (wb k c : Nat) (P G : Int) (id t : Nat) (v : Value) (rest : List UInt8) (sv av tv : Value) (S : List UInt8) (ats : List Int) (hs : List Value) (Ms : List Mtx) : Prop where
  wr : WrAt w wb w0.heap.size k c P G id t v rest
  twb : O wb = 1
  tv1 : ∀ x, v.ownBlock = some x → O x = 1
  st : Own w w0.heap.size sv S
  ts : ∀ x, sv.ownBlock = some x → O x = 2
  at_ : OwnV w w0.heap.size 3 av (ats.map (Value.int .i64))
  ta : ∀ x, av.ownBlock = some x → O x = 3
  tl : OwnV w w0.heap.size 34 tv hs
  tt : ∀ x, tv.ownBlock = some x → O x = 4
  rows : HsT w O hs Ms
  bel : Below w0.heap.size w0 w
  low : ∀ x, x < w0.heap.size → O x = 0
section
variable {w0 w w' : World} {O : Nat → Nat} {wb k c : Nat} {P G : Int} {id t : Nat} {v : Value} {rest : List UInt8} {sv av tv : Value} {S : List UInt8} {ats : List Int} {hs : List Value} {Ms : List Mtx}
theorem HSt.below (h : HSt w0 w O wb k c P G id t v rest sv av tv S ats hs Ms) (hb : Below w.heap.size w w') : HSt w0 w' O wb k c P G id t v rest sv av tv S ats hs Ms := by
  have s := Stp.below O 9 hb
  exact ⟨h.wr.below hb, h.twb, h.tv1, (s.own h.st h.ts (by omega)).1, h.ts, (s.ownV h.at_ h.ta (by omega)).1, h.ta, (s.ownV h.tl h.tt (by omega)).1, h.tt, h.rows.stp s (by omega), (s.bel h.bel h.low (by omega)).1, h.low⟩
theorem HSt.add {v' : Value} {b : List UInt8} {n g : Nat} (h : HSt w0 w O wb k c P G id t v rest sv av tv S ats hs Ms) (hT : Told w w' wb w0.heap.size k c P G id t v rest b n g v') :
    ∃ O', HSt w0 w' O' wb k c P G id (t + n) v' ((rest ++ b).drop (n * (k * c))) sv av tv S ats hs Ms ∧ RTM w' O' (some ⟨g, 0, none⟩) (rowsM k c G id t (cutN (rest ++ b) (k * c) n)) := by
  obtain ⟨O', s, q1, q2, q3⟩ := hT.stp O h.wr h.twb h.tv1
  obtain ⟨a1, a2⟩ := s.own h.st h.ts (by omega)
  obtain ⟨b1, b2⟩ := s.ownV h.at_ h.ta (by omega)
  obtain ⟨c1, c2⟩ := s.ownV h.tl h.tt (by omega)
  obtain ⟨d1, d2⟩ := s.bel h.bel h.low (by omega)
  exact ⟨O', ⟨hT.2.1, q1, q2, a1, a2, b1, b2, c1, c2, h.rows.stp s (by omega), d1, d2⟩, q3⟩
theorem WrAt.stp {O' : Nat → Nat} {τ base : Nat} (s : Stp O O' τ w w') (h : WrAt w wb base k c P G id t v rest) (h1 : O wb = 1) (h2 : ∀ x, v.ownBlock = some x → O x = 1) (hn : 1 ≠ τ) : WrAt w' wb base k c P G id t v rest ∧ O' wb = 1 ∧ ∀ x, v.ownBlock = some x → O' x = 1 := by
  obtain ⟨a1, a2⟩ := s.cells h.wr h1 hn
  obtain ⟨b1, b2⟩ := s.own h.own h2 hn
  exact ⟨⟨a1, b1, h.hok, h.hcG, h.hid, h.ht, h.hr, h.hgl⟩, a2, b2⟩
theorem HSt.pushS {sv' : Value} {b : List UInt8} (h : HSt w0 w O wb k c P G id t v rest sv av tv S ats hs Ms) (ho : Own w' w0.heap.size sv' (S ++ b)) (hg : w.grownBy w' sv.ownBlock) (hv : sv'.ownBlock = sv.ownBlock ∨ sv'.ownBlock = some w.heap.size) :
    ∃ O', Stp O O' 2 w w' ∧ HSt w0 w' O' wb k c P G id t v rest sv' av tv (S ++ b) ats hs Ms := by
  obtain ⟨O', s, q⟩ := Stp.grown O 2 hg h.ts (fun x hx => (h.st.lt x hx).2) hv
  obtain ⟨w1, w2, w3⟩ := WrAt.stp s h.wr h.twb h.tv1 (by omega)
  obtain ⟨b1, b2⟩ := s.ownV h.at_ h.ta (by omega)
  obtain ⟨c1, c2⟩ := s.ownV h.tl h.tt (by omega)
  obtain ⟨d1, d2⟩ := s.bel h.bel h.low (by omega)
  exact ⟨O', s, ⟨w1, w2, w3, ho, q, b1, b2, c1, c2, h.rows.stp s (by omega), d1, d2⟩⟩
theorem HSt.pushA {av' : Value} {a : Int} (h : HSt w0 w O wb k c P G id t v rest sv av tv S ats hs Ms) (ho : OwnV w' w0.heap.size 3 av' (ats.map (Value.int .i64) ++ [.int .i64 a])) (hg : w.grownBy w' av.ownBlock) (hv : av'.ownBlock = av.ownBlock ∨ av'.ownBlock = some w.heap.size) :
    ∃ O', Stp O O' 3 w w' ∧ HSt w0 w' O' wb k c P G id t v rest sv av' tv S (ats ++ [a]) hs Ms := by
  obtain ⟨O', s, q⟩ := Stp.grown O 3 hg h.ta (fun x hx => (h.at_.ge x hx).2) hv
  obtain ⟨w1, w2, w3⟩ := WrAt.stp s h.wr h.twb h.tv1 (by omega)
  obtain ⟨a1, a2⟩ := s.own h.st h.ts (by omega)
  obtain ⟨c1, c2⟩ := s.ownV h.tl h.tt (by omega)
  obtain ⟨d1, d2⟩ := s.bel h.bel h.low (by omega)
  refine ⟨O', s, ⟨w1, w2, w3, a1, a2, ?_, q, c1, c2, h.rows.stp s (by omega), d1, d2⟩⟩
  rw [List.map_append]
  exact ho
theorem HSt.pushT {tv' : Value} {us : List Value} {Ns : List Mtx} (h : HSt w0 w O wb k c P G id t v rest sv av tv S ats hs Ms) (hu : HsT w O us Ns) (ho : OwnV w' w0.heap.size 34 tv' (hs ++ us)) (hg : w.grownBy w' tv.ownBlock) (hv : tv'.ownBlock = tv.ownBlock ∨ tv'.ownBlock = some w.heap.size) :
    ∃ O', Stp O O' 4 w w' ∧ HSt w0 w' O' wb k c P G id t v rest sv av tv' S ats (hs ++ us) (Ms ++ Ns) := by
  obtain ⟨O', s, q⟩ := Stp.grown O 4 hg h.tt (fun x hx => (h.tl.ge x hx).2) hv
  obtain ⟨w1, w2, w3⟩ := WrAt.stp s h.wr h.twb h.tv1 (by omega)
  obtain ⟨a1, a2⟩ := s.own h.st h.ts (by omega)
  obtain ⟨b1, b2⟩ := s.ownV h.at_ h.ta (by omega)
  obtain ⟨d1, d2⟩ := s.bel h.bel h.low (by omega)
  exact ⟨O', s, ⟨w1, w2, w3, a1, a2, b1, b2, ho, q, (h.rows.append hu).stp s (by omega), d1, d2⟩⟩
end
/-! places that hold -/
def HoldsA (S : List UInt8) (ats : List Int) (bl : Mtx) : Prop := ∀ (j : Nat) (a : Int) (l : List UInt8), ats[j]? = some a → bl[j]? = some l → a = -1 ∨ ∃ an : Nat, a = (an : Int) ∧ (S.drop an).take l.length = l ∧ an + l.length ≤ S.length ∧ 1 ≤ l.length
theorem HoldsA.more {S : List UInt8} {ats : List Int} {bl : Mtx} (h : HoldsA S ats bl) (b : List UInt8) : HoldsA (S ++ b) ats bl := fun j a l ha hl => by
  rcases h j a l ha hl with h | ⟨an, e, h1, h2, h3⟩
  · exact .inl h
  · refine .inr ⟨an, e, ?_, by rw [List.length_append]; omega, h3⟩
    rw [List.drop_append_of_le_length (by omega), List.take_append_of_le_length (by rw [List.length_drop]; omega)]
    exact h1
theorem HoldsA.no {S : List UInt8} {ats : List Int} {bl : Mtx} (h : HoldsA S ats bl) : HoldsA S (ats ++ [-1]) bl := fun j a l ha hl => by
  by_cases hj : j < ats.length
  · rw [List.getElem?_append_left hj] at ha
    exact h j a l ha hl
  · rw [List.getElem?_append_right (by omega)] at ha
    have h0 : j - ats.length = 0 := by
      have := (List.getElem?_eq_some_iff.1 ha).1
      simp at this; omega
    rw [h0] at ha
    cases ha
    exact .inl rfl
theorem HoldsA.yes {S : List UInt8} {ats : List Int} {bl : Mtx} {b : List UInt8} (h : HoldsA S ats bl) (hb : bl[ats.length]? = some b) (hb1 : 1 ≤ b.length) : HoldsA (S ++ b) (ats ++ [(S.length : Int)]) bl := fun j a l ha hl => by
  by_cases hj : j < ats.length
  · rw [List.getElem?_append_left hj] at ha
    exact h.more b j a l ha hl
  · rw [List.getElem?_append_right (by omega)] at ha
    have h0 : j - ats.length = 0 := by
      have := (List.getElem?_eq_some_iff.1 ha).1
      simp at this; omega
    rw [h0] at ha
    cases ha
    have e : j = ats.length := by omega
    rw [e, hb] at hl
    cases hl
    exact .inr ⟨S.length, rfl, by simp, by simp, hb1⟩
/-- the lengths' sum -/
def slen (bl : Mtx) : Nat → Nat
  | 0 => 0
  | i + 1 => slen bl i + (bl.getD i []).length
theorem slen_le {bl : Mtx} {m : Nat} (h : ∀ (i : Nat) (l : List UInt8), bl[i]? = some l → l.length ≤ m) : ∀ i, slen bl i ≤ i * m
  | 0 => by simp [slen]
  | i + 1 => by
    have ih := slen_le h i
    rw [slen, Nat.succ_mul]
    have : (bl.getD i []).length ≤ m := by
      rcases hq : bl[i]? with _ | l
      · rw [List.getD, hq]; simp
      · rw [List.getD, hq]; exact h i l hq
    omega
end Go.Proofs.YtlficcdbnmheeaaDoor

/-
  known.
-/
namespace Go.Proofs.YtlficcdbnmheeaaDoor
open Go.RowKit Go.Sort Go.Lib

section
set_option maxRecDepth 20000
set_option maxHeartbeats 4000000
theorem Told.bel {w w' : World} {wb base k c B : Nat} {P G : Int} {id t : Nat} {v v' : Value} {rest b : List UInt8} {n g : Nat} (h : WrAt w wb base k c P G id t v rest) (hT : Told w w' wb base k c P G id t v rest b n g v') (hwb : B ≤ wb) (hb : B ≤ base) (hB : B ≤ w.heap.size) : Below B w w' :=
  hT.2.2.1.to_below (fun x hx => ⟨fun e => by omega, fun e => by have := (World.ownsRow.lt h.own x e).1; omega⟩) hB
theorem rowM_four (d : List UInt8) (hd : d.length ≤ 2 * 13) : (rowM 2 13 d).length = 4 := by
  have := (rowM_par (k := 2) (c := 13) (d := d) (by decide) (by decide) hd).1
  unfold rowM
  rw [List.length_append, cutN_len, this]
theorem known_any (w : World) (hT : Tab w) : Calls Tryd.prog 9 #[] w fun e w' => e = .returned (.bool true) ∧ Below w.heap.size w w' := by
  have Hwh : Hid (∀ W, Calls Tryd.prog 23 #[.agg #[.int .i64 2, .int .i64 3, .int .i64 32], .int .i64 30] W fun e w' => e = .returned (.tuple #[.int .i64 2, .int .i64 0, .int .i64 4, .int .i64 0]) ∧ Gr W w') := fun W => where_ok 2 13 3 32 (by decide) (by decide) 30 (by decide) W
  have Hnew : Hid (∀ W, Calls Tryd.prog 28 #[.agg #[.int .i64 2, .int .i64 3, .int .i64 32], .int .u64 7] W fun e w' => ∃ wb, e = .returned (.tuple #[.pointer (some ⟨wb, 0, none⟩), .int .i64 0]) ∧ W.heap.size ≤ wb ∧ Cells w' wb 98 [.int .i64 2, .int .i64 3, .int .i64 32, .int .u64 7, .int .i64 0, .slice none 0 0] ∧ Below W.heap.size W w') := fun W => by
    refine (newW_any 2 3 32 7 W).mono ?_
    rintro e w' (⟨h, _⟩ | ⟨_, h⟩)
    · exact absurd h (by decide)
    · exact h
  have Hrow : Hid (∀ W, Calls Tryd.prog 14 #[.agg #[.int .i64 2, .int .i64 3, .int .i64 32]] W fun e w' => e = .returned (.int .i64 26) ∧ Gr W w') := fun W => row_any 2 3 32 W
  have Hroom : Hid (∀ W, Calls Tryd.prog 16 #[.agg #[.int .i64 2, .int .i64 3, .int .i64 32]] W fun e w' => e = .returned (.int .i64 52) ∧ Gr W w') := fun W => sroom_any 2 3 32 (by decide) W
  obtain ⟨cs, Hcs, hmk0⟩ := make_run 27 (by decide)
  have hmk : ∀ u : World, (Instr.makeSlice 25 (.int .i64 27) (.int .i64 27)).run Tryd.prog u = .ok (.slice (some ⟨u.heap.size, 0, none⟩) 27 27) (u.alloc (.cells cs 5)) := hmk0
  obtain ⟨W1, hW1⟩ : ∃ W1, W1 = w.alloc (.cells #[.int .i64 2, .int .i64 3, .int .i64 32] 23) := ⟨_, rfl⟩
  have hC1 : Cells W1 w.heap.size 23 [.int .i64 2, .int .i64 3, .int .i64 32] := by rw [hW1]; exact Cells.new w _ _
  have hB1 : Below w.heap.size w W1 := by rw [hW1]; exact (Below.refl _ _).alloc (Nat.le_refl _) _
  have HF : Hid (∀ W, Below W1.heap.size W1 W → Below w.heap.size w W ∧ W.cell? ⟨w.heap.size, 0, none⟩ = some (.int .i64 2) ∧ W.cell? ⟨w.heap.size, 1, none⟩ = some (.int .i64 3) ∧ W.cell? ⟨w.heap.size, 2, none⟩ = some (.int .i64 32) ∧ Tab W ∧ 0 < W1.heap.size ∧ W1.heap.size ≤ W.heap.size) := fun W hb => by
    have hc := hC1.move (hb.block _ hC1.lt)
    have hb2 : Below w.heap.size w W := hB1.trans (hb.mono hB1.size)
    have hl : 0 < w.heap.size := World.block_lt_of_cell? _ _ (hT 0 (by decide))
    exact ⟨hb2, hc.cell rfl, hc.cell rfl, hc.cell rfl, hT.below hb2 hT.pos, Nat.lt_of_lt_of_le hl hB1.size, hb.size⟩
  obtain ⟨b, hb⟩ : ∃ b, b = W1.heap.size := ⟨_, rfl⟩
  rw [← hb] at HF
  have Hadd : Hid (∀ W wb, WrAt W wb b 2 13 3 32 7 0 (.slice none 0 0) [] → Tab W → b ≤ W.heap.size → Calls Tryd.prog 32 #[.pointer (some ⟨wb, 0, none⟩), .slice (some ⟨W.heap.size, 0, none⟩) 27 27] (W.alloc (.cells cs 5)) fun e w' =>
      ∃ g v' A c rest, e = .returned (.tuple #[.int .i64 0, .slice (some ⟨g, 0, none⟩) 1 1, .int .i64 0]) ∧ rest.length = 1 ∧ WrAt w' wb b 2 13 3 32 7 1 v' rest ∧ w'.cell? ⟨g, 0, none⟩ = some (.slice A 4 c) ∧ W.heap.size ≤ g ∧ g < w'.heap.size ∧ (∀ x, v'.ownBlock = some x → g < x) ∧ (b ≤ wb → Below b W w')) := fun W wb h hTW hbW => by
    have hG : Gr W (W.alloc (.cells cs 5)) := Gr.alloc _ _
    have hbb := RB.new W cs 5 (List.replicate 27 0) (by rw [Hcs.out])
    have hsz : (W.alloc (.cells cs 5)).heap.size = W.heap.size + 1 := by simp
    rw [← hsz] at hbb
    refine (wadd_any (h.below hG.below) (hTW.below hG.below hTW.pos) _ 27 _ hbb (by decide) (by omega)).mono ?_
    rintro e w' (⟨q, _⟩ | ⟨_, q, _⟩ | ⟨_, _, n, g, v', hn, he, hq⟩)
    · exact absurd q (by decide)
    · exact absurd q (by decide)
    · have hn1 : n = 1 := hn
      subst hn1
      have hT' : Told W w' wb b 2 13 3 32 7 0 (.slice none 0 0) [] (List.replicate 27 0) 1 g v' := Told.gr hG hq
      obtain ⟨⟨B, q1, q2, q3, q4⟩, q5, _⟩ := hT'
      obtain ⟨b', o, A', c, e1, h1, h2, h3, _⟩ := q3 0 _ (rowsM_get (by rw [cutN_len]; decide))
      cases e1
      rw [pageM_len, rowM_four _ (by decide)] at h3
      refine ⟨g, v', A', c, _, he, by decide, q5, h3, h1, by omega, fun x hx => ?_, fun hw => Told.bel h (Told.gr hG hq) hw (Nat.le_refl _) hbW⟩
      rcases q4 with q4 | q4
      · omega
      · have := q4 x hx
        omega
  have Hpad : Hid (∀ W wb v rest g, WrAt W wb b 2 13 3 32 7 1 v rest → rest.length = 1 → Tab W → b ≤ W.heap.size → g < W.heap.size → wb ≠ g → (∀ x, v.ownBlock = some x → g < x) → Calls Tryd.prog 30 #[.pointer (some ⟨wb, 0, none⟩)] W fun e w' =>
      ∃ g' v' rest', e = .returned (.slice (some ⟨g', 0, none⟩) 1 1) ∧ rest'.length = 0 ∧ WrAt w' wb b 2 13 3 32 7 2 v' rest' ∧ w'.cell? ⟨g, 0, none⟩ = W.cell? ⟨g, 0, none⟩ ∧ (b ≤ wb → Below b W w')) := fun W wb v rest g h hl hTW hbW hgW hne hx => by
    refine (wpad_any h hTW hbW (fun _ => by decide)).mono ?_
    rintro e w' (⟨q, _⟩ | ⟨_, g', v', he, hq⟩)
    · omega
    · refine ⟨g', v', _, he, ?_, hq.2.1, ?_, fun hw => Told.bel h hq hw (Nat.le_refl _) hbW⟩
      · rw [List.length_drop, List.length_append, List.length_replicate]; omega
      · exact World.cell?_of_block (hq.2.2.1.block g hgW ⟨fun e => hne e.symm, fun e => by have := hx g e; omega⟩)
  have Hsz : Hid (∀ W wb v rest, WrAt W wb b 2 13 3 32 7 2 v rest → rest.length = 0 → Calls Tryd.prog 34 #[.pointer (some ⟨wb, 0, none⟩)] W fun e w' => e = .returned (.int .i64 52) ∧ Gr W w') := fun W wb v rest h hl => by
    have := size_any h
    rw [hl] at this
    exact this
  have HB0 : Hid (∀ W, Gr W1 W → Below b W1 W) := fun W hg => by rw [hb]; exact hg.below
  obtain ⟨_, x0, x1, x2, _⟩ := HF.out W1 (HB0.out W1 (Gr.refl _))
  clear hT hmk0 hC1 hB1 hb
  go_enter Tryd.func9, Tryd.ntmps9
  go_wp2_with fail
  rw [← hW1]
  clear hW1
  refine (Hwh.out W1).mono ?_
  rintro e w2 ⟨rfl, hg2⟩
  have H2 : Hid (Below b W1 w2) := HB0.out w2 hg2
  obtain ⟨_, y0, y1, y2, _⟩ := HF.out w2 H2.out
  clear hg2 x0 x1 x2 Hwh
  go_wp2_with fail
  refine (Hnew.out w2).mono ?_
  rintro e w3 ⟨wb, rfl, hwb, hC3, hb3⟩
  have H3 : Hid (Below b W1 w3 ∧ b ≤ wb ∧ wb < w3.heap.size ∧ WrAt w3 wb b 2 13 3 32 7 0 (.slice none 0 0) []) := by
    have hb9 := H2.out.trans (hb3.mono (HF.out w2 H2.out).2.2.2.2.2.2)
    have h9 := (HF.out w2 H2.out).2.2.2.2.2
    exact ⟨hb9, by omega, hC3.lt, ⟨hC3, Own.nil _ _, by decide, by decide, by decide, by decide, by decide, h9.1⟩⟩
  have Ha := Lib.hid (Hadd.out w3 wb H3.out.2.2.2 (HF.out w3 H3.out.1).2.2.2.2.1 (HF.out w3 H3.out.1).2.2.2.2.2.2)
  clear hwb hC3 hb3 y0 y1 y2 Hnew Hadd
  go_wp2_with fail
  refine Ha.out.mono ?_
  rintro e w4 ⟨g, v4, A4, c4, rest4, rfl, hl4, hw4, hc4, hg4, hg4', hx4, hb4⟩
  have H4 : Hid (Below b W1 w4 ∧ w4.cell? ⟨g, 0, none⟩ = some (.slice A4 4 c4) ∧ g < w4.heap.size) := ⟨H3.out.1.trans (hb4 H3.out.2.1), hc4, hg4'⟩
  have Hp := Lib.hid (Hpad.out w4 wb v4 rest4 g hw4 hl4 (HF.out w4 H4.out.1).2.2.2.2.1 (HF.out w4 H4.out.1).2.2.2.2.2.2 hg4' (by have := H3.out.2.2.1; omega) hx4)
  clear hl4 hw4 hc4 hg4 hg4' hx4 hb4 Ha Hpad
  go_wp2_with fail
  refine Hp.out.mono ?_
  rintro e w5 ⟨g5, v5, rest5, rfl, hl5, hw5, hc5, hb5⟩
  have H5 : Hid (Below b W1 w5 ∧ w5.cell? ⟨g, 0, none⟩ = some (.slice A4 4 c4) ∧ g < w5.heap.size ∧ WrAt w5 wb b 2 13 3 32 7 2 v5 rest5 ∧ rest5.length = 0) := by
    have hb9 := hb5 H3.out.2.1
    exact ⟨H4.out.1.trans hb9, hc5.trans H4.out.2.1, Nat.lt_of_lt_of_le H4.out.2.2 hb9.size, hw5, hl5⟩
  obtain ⟨_, y0, y1, y2, _⟩ := HF.out w5 H5.out.1
  clear hl5 hw5 hc5 hb5 Hp H4 H2
  go_wp2_with fail
  refine (Hrow.out w5).mono ?_
  rintro e w6 ⟨rfl, hg6⟩
  have H6 : Hid (Gr w5 w6 ∧ Below b W1 w6) := ⟨hg6, H5.out.1.trans (hg6.below.mono (HF.out w5 H5.out.1).2.2.2.2.2.2)⟩
  clear hg6 y0 y1 y2
  obtain ⟨_, y0, y1, y2, _⟩ := HF.out w6 H6.out.2
  go_wp2_with fail
  refine (Hroom.out w6).mono ?_
  rintro e w7 ⟨rfl, hg7⟩
  have H7 : Hid (Gr w5 w7 ∧ Below b W1 w7) := ⟨H6.out.1.trans hg7, H6.out.2.trans (hg7.below.mono (HF.out w6 H6.out.2).2.2.2.2.2.2)⟩
  clear hg7 y0 y1 y2
  have z := (H7.out.1.below.cell (p := ⟨g, 0, none⟩) H5.out.2.2.1).trans H5.out.2.1
  have Hs := Lib.hid (Hsz.out w7 wb v5 rest5 (H5.out.2.2.2.1.below H7.out.1.below) H5.out.2.2.2.2)
  go_wp2_with fail
  refine Hs.out.mono ?_
  rintro e w8 ⟨rfl, hg8⟩
  have H8 : Hid (Below b W1 w8) := H7.out.2.trans (hg8.below.mono (HF.out w7 H7.out.2).2.2.2.2.2.2)
  clear hg8
  go_wp2_with fail
  go_ret
  exact ⟨rfl, (HF.out w8 H8.out).1⟩
end
end Go.Proofs.YtlficcdbnmheeaaDoor
