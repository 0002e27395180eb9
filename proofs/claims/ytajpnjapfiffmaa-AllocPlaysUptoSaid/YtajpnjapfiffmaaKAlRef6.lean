/-
  The second saying's table: New.
-/
import Derived.Test.YtajpnjapfiffmaaKAlRefMath
import Derived.Test.YtajpnjapfiffmaaAlNew
namespace Go.Proofs.Ytajpnjapfiffmaa
open Go.RowKit Go.Maps

/-- append(v, x), one element more, at a step of a region that draws its order -/
theorem step_app_one8 {w : World} {ops : Array Oper} {K : Act → World → Prop} {E : Prop} {o : Oper} {a : Act} {Q : Exit → Act → World → Prop} (hgd : o.guard = none) (s x : Operand) (t e : TypeId)
    (ho : o.op = .call { callee := .builtin .append, args := #[s, x], argTypes := #[t, t] })
    (hu : Try.prog.underlying t = some (.slice e)) (z : Value) (bytes : Nat) (hi : (Try.prog.info? e).map (fun i => (i.zero, i.size, i.bytes)) = some (some z, 1, bytes)) (hzc : z.cells.size = 1)
    (base : Nat) (v : Value) (xs : List Value) (hs : a.eval s = v) (hown : OwnV w base e v xs)
    (ad : Addr) (c : Nat) (u : Value) (hx : a.eval x = .slice (some ad) 1 c) (hc : w.cell? ad = some u) (h1 : u.oneCell' = true)
    (hlen : xs.length + 1 ≤ 140737488355327) (hbytes : (xs.length + 1) * bytes ≤ 140737488355328) (hbase : base ≤ w.heap.size)
    (h : ∀ v' w', OwnV w' base e v' (xs ++ [u]) → w.grownBy w' v.ownBlock → (v'.ownBlock = v.ownBlock ∨ v'.ownBlock = some w.heap.size) → K (a.put o.dst v') w') :
    if Region.wanted o (yielded ops a.tmps) = true then Oper.wp Try.prog o a w K Q else E := by
  have hw : Region.wanted o (yielded ops a.tmps) = true := by simp [Region.wanted, hgd]
  rw [if_pos hw]
  obtain ⟨v', w', hrun, h2, h3, h5⟩ := app_cells_run (w := w) t o.type e hu z bytes hi hzc base v xs hown ad c [u]
    (fun j y hy => by
      cases j with
      | zero => simp at hy; subst hy; exact hc
      | succ j => simp at hy) (fun y hy => by simp at hy; subst hy; exact h1) (by simpa using hlen) (by simpa using hbytes) hbase
  unfold Oper.wp execOp
  simp only [ho, resolve, invoke, builtin, Sem.run_bind, Sem.run_pure, Result.andThen_ok, List.map_toArray, List.map_cons, List.map_nil, hs, hx]
  rw [show (Builtin.append_ #[t, t] o.type #[v, .slice (some ad) 1 c]).run Try.prog w = .ok v' w' from hrun]
  exact h v' w' h2 h3 h5
theorem info_ints : (Try.prog.info? 34).map (fun i => (i.zero, i.size, i.bytes)) = some (some (.slice none 0 0), 1, 24) := by kernel_rfl
theorem info_int8 : (Try.prog.info? 3).map (fun i => (i.zero, i.size, i.bytes)) = some (some (.int .i64 0), 1, 8) := by kernel_rfl
theorem ownV_shape {w : World} {base : Nat} {e : TypeId} {v : Value} {xs : List Value} (h : OwnV w base e v xs) : ∃ A n c, v = .slice A n c := by
  rcases h.form with ⟨rfl, rfl⟩ | ⟨g, cap, cur, rfl, _⟩
  · exact ⟨none, 0, 0, rfl⟩
  · exact ⟨_, _, _, rfl⟩
set_option maxRecDepth 100000 in
theorem make_ints (n : Nat) (hn : n ≤ 1000000) : ∃ cs : Array Value, Hid (cs = (List.replicate n (Value.int .i64 0)).toArray) ∧
    ∀ u : World, (Instr.makeSlice 34 (.int .i64 (n : Int)) (.int .i64 (n : Int))).run Try.prog u = .ok (.slice (some ⟨u.heap.size, 0, none⟩) n n) (u.alloc (.cells cs 3)) := by
  obtain ⟨i0, hi, hz0, hz1, hz2⟩ := info_parts info_int8
  refine ⟨_, rfl, fun u => ?_⟩
  have h := run_make (P := Try.prog) u 34 3 i0 (.int .i64 0) Try.underlying34 hi hz0 .i64 .i64 (n : Int) (n : Int) (by omega) (Int.le_refl _) (by rw [hz2]; omega) (by omega)
  rw [h]
  simp only [Int.toNat_natCast, hz1, Nat.mul_one]
  congr 3
  apply Array.toList_inj.1
  show (madeCells #[Value.int .i64 0] n).toList = _
  rw [toList_madeCells_one]
theorem RowN.new {w1 : World} {n : Nat} {cs : Array Value} (hcs : cs = (List.replicate n (Value.int .i64 0)).toArray) : RowN (w1.alloc (.cells cs 3)) w1.heap.size n (fun _ => 0) := by
  refine ⟨_, Cells.new w1 cs _, by rw [hcs]; simp, fun k hk => ?_⟩
  rw [hcs]
  simp [hk]
def hdrs (z : Nat) (Rs : List Nat) : List Value := Rs.map fun b => .slice (some ⟨b, 0, none⟩) z z
theorem hdrs_length (z : Nat) (Rs : List Nat) : (hdrs z Rs).length = Rs.length := by simp [hdrs]
structure NewR (w wr : World) (z : Nat) (Rs : List Nat) (v : Value) : Prop where
  tc : Cells wr w.heap.size 68 [v]
  own : OwnV wr (w.heap.size + 1) 34 v (hdrs z Rs)
  rows : ∀ b ∈ Rs, RowN wr b z (fun _ => 0) ∧ w.heap.size + 1 ≤ b
  nd : Rs.Nodup
  bel : Below w.heap.size w wr
theorem NewR.below {w wr w1 : World} {z : Nat} {Rs : List Nat} {v : Value} (h : NewR w wr z Rs v) (hb : Below wr.heap.size wr w1) : NewR w w1 z Rs v :=
  ⟨h.tc.move (hb.block _ h.tc.lt), h.own.move fun g hg => hb.block g (h.own.ge g hg).2, fun b hbR => ⟨(h.rows b hbR).1.move (hb.block b (h.rows b hbR).1.lt), (h.rows b hbR).2⟩, h.nd, h.bel.trans (hb.mono h.bel.size)⟩
theorem NewR.snoc {w W0 w4 : World} {z b : Nat} {Rs : List Nat} {v v4 : Value} (h : NewR w W0 z Rs v) (hrow : RowN W0 b z (fun _ => 0)) (hb : w.heap.size + 1 ≤ b) (hbn : b ∉ Rs)
    (hown : OwnV w4 (w.heap.size + 1) 34 v4 (hdrs z Rs ++ [.slice (some ⟨b, 0, none⟩) z z])) (hg : W0.grownBy w4 v.ownBlock) :
    w4.frozen? ⟨w.heap.size, 0, none⟩ = false ∧ (∃ u, w4.cell? ⟨w.heap.size, 0, none⟩ = some u) ∧ NewR w (w4.setCell ⟨w.heap.size, 0, none⟩ v4) z (Rs ++ [b]) v4 := by
  have hne : ∀ {t : TypeId} {x : Nat} {cs : List Value}, Cells W0 x t cs → t ≠ 34 → some x ≠ v.ownBlock := fun {t x cs} hc ht e => by
    rcases h.own.form with ⟨q, _⟩ | ⟨g, cap, cur, q, _, hcur, _⟩
    · rw [q] at e; cases e
    · rw [q] at e
      cases e
      exact ht (hc.type hcur).1
  have t4 : Cells w4 w.heap.size 68 [v] := h.tc.move (hg.block _ h.tc.lt (hne h.tc (by decide)))
  have hrows : ∀ x, RowN W0 x z (fun _ => 0) → w.heap.size + 1 ≤ x → RowN (w4.setCell ⟨w.heap.size, 0, none⟩ v4) x z (fun _ => 0) := fun x hx hlt => by
    obtain ⟨cs, q1, q2⟩ := hx
    exact ⟨cs, (q1.move (hg.block _ q1.lt (hne q1 (by decide)))).move (set_other _ _ (by omega)), q2⟩
  refine ⟨t4.frozen 0, ⟨v, t4.cell rfl⟩, t4.set 0 v4, ?_, fun x hx => ?_, ?_, ?_⟩
  · have := hown.move (w' := w4.setCell ⟨w.heap.size, 0, none⟩ v4) fun g hg2 => set_other _ _ (by have := (hown.ge g hg2).1; omega)
    simpa [hdrs] using this
  · rcases List.mem_append.1 hx with hx | hx
    · exact ⟨hrows x (h.rows x hx).1 (h.rows x hx).2, (h.rows x hx).2⟩
    · obtain rfl : x = b := by simpa using hx
      exact ⟨hrows x hrow hb, hb⟩
  · rw [List.nodup_append]
    exact ⟨h.nd, by simp, fun a ha c hc e => hbn (by simp at hc; subst hc; subst e; exact ha)⟩
  · exact (h.bel.grown hg h.bel.size (fun k hk => by have := (h.own.ge k hk).1; omega)).setCell (p := ⟨w.heap.size, 0, none⟩) (Nat.le_refl _) _
section
set_option maxRecDepth 20000
set_option maxHeartbeats 1600000
theorem rnew_any (d z : Nat) (hd : 1 ≤ d ∧ d ≤ 32) (hz : 1 ≤ z ∧ z ≤ 4096) (w : World) : Calls Try.prog 9 #[.int .i64 (d : Int), .int .i64 (z : Int)] w fun e w' => ∃ lb cap R, e = .returned (.tuple #[.pointer (some ⟨w.heap.size, 0, none⟩), .int .i64 0]) ∧ RefT w' w.heap.size lb cap d z R (fun _ _ => 0) ∧ Below w.heap.size w w' ∧ w.heap.size ≤ lb ∧ ∀ k, k < d → w.heap.size ≤ R k := by
  obtain ⟨hd1, hd2⟩ := hd
  obtain ⟨hz1, hz2⟩ := hz
  have a1 : ¬ (d : Int) < 1 := by omega
  have a2 : ¬ (32 : Int) < (d : Int) := by omega
  have a3 : ¬ (z : Int) < 1 := by omega
  have a4 : ¬ (4096 : Int) < (z : Int) := by omega
  obtain ⟨zs, Hzs, hmk⟩ := make_ints z (by omega)
  have Hst : Hid (NewR w (w.alloc (.cells #[.slice none 0 0] 68)) z [] (.slice none 0 0)) :=
    ⟨Cells.new _ _ _, OwnV.nil _ _ _, fun b hb => by simp at hb, List.nodup_nil, (Below.refl _ _).alloc (Nat.le_refl _) _⟩
  go_enter Try.func9, Try.ntmps9
  go_wp2_with fail
  go_loopw [7] (fun iv wr => ∃ (i : Nat) (Rs : List Nat) (v : Value), iv = .int .i64 (i : Int) ∧ i ≤ d ∧ Hid (i = Rs.length) ∧ Hid (NewR w wr z Rs v)) (fun iv _ => d - (intOf iv).toNat)
  case atStart => exact ⟨0, [], _, rfl, Nat.zero_le _, rfl, Hst.out⟩
  case round =>
    obtain ⟨i, Rs, v, rfl, hi, HRl, hst⟩ := hrel
    by_cases hlt : i < d
    · have hlt' : (i : Int) < (d : Int) := by omega
      have t1 : wr.cell? ⟨w.heap.size, 0, none⟩ = some v := hst.out.tc.cell rfl
      have t2 : ∀ o, (wr.alloc o).cell? ⟨w.heap.size, 0, none⟩ = some v := fun o => (hst.out.tc.alloc o).cell rfl
      have t3 : ∀ o o', ((wr.alloc o).alloc o').cell? ⟨w.heap.size, 0, none⟩ = some v := fun o o' => ((hst.out.tc.alloc o).alloc o').cell rfl
      have hlen : Rs.length ≤ 32 := by have := HRl.out; omega
      have HS : Hid (∀ q : Nat, True) := fun _ => trivial
      clear HS
      have hsz : (wr.alloc (.cells zs 3)).heap.size = wr.heap.size + 1 := by simp
      have HS : Hid (OwnV ((wr.drew.alloc (.cells zs 3)).alloc (.cells #[.slice (some ⟨wr.heap.size, 0, none⟩) z z] 34)) (w.heap.size + 1) 34 v (hdrs z Rs) ∧
          ((wr.drew.alloc (.cells zs 3)).alloc (.cells #[.slice (some ⟨wr.heap.size, 0, none⟩) z z] 34)).cell? ⟨wr.heap.size + 1, 0, none⟩ = some (.slice (some ⟨wr.heap.size, 0, none⟩) z z) ∧
          (hdrs z Rs).length + 1 ≤ 140737488355327 ∧ ((hdrs z Rs).length + 1) * 24 ≤ 140737488355328 ∧ w.heap.size + 1 ≤ ((wr.drew.alloc (.cells zs 3)).alloc (.cells #[.slice (some ⟨wr.heap.size, 0, none⟩) z z] 34)).heap.size ∧
          ∀ v4 w4, OwnV w4 (w.heap.size + 1) 34 v4 (hdrs z Rs ++ [.slice (some ⟨wr.heap.size, 0, none⟩) z z]) → ((wr.drew.alloc (.cells zs 3)).alloc (.cells #[.slice (some ⟨wr.heap.size, 0, none⟩) z z] 34)).grownBy w4 v.ownBlock →
            w4.frozen? ⟨w.heap.size, 0, none⟩ = false ∧ (∃ u, w4.cell? ⟨w.heap.size, 0, none⟩ = some u) ∧ NewR w (w4.setCell ⟨w.heap.size, 0, none⟩ v4) z (Rs ++ [wr.heap.size]) v4) := by
        have hb : Below wr.heap.size wr ((wr.drew.alloc (.cells zs 3)).alloc (.cells #[.slice (some ⟨wr.heap.size, 0, none⟩) z z] 34)) := ((Below.refl _ _).drew.alloc (Nat.le_refl _) _).alloc (by simp) _
        have h2 := hst.out.below hb
        have hlw := hst.out.tc.lt
        refine ⟨h2.own, ?_, by rw [hdrs_length]; omega, by rw [hdrs_length]; omega, by simp; omega, fun v4 w4 hown hg => h2.snoc ?_ (by omega) (fun q => ?_) hown hg⟩
        · have e1 : (wr.drew.alloc (.cells zs 3)).heap.size = wr.heap.size + 1 := by simp
          have := (Cells.new (wr.drew.alloc (.cells zs 3)) #[.slice (some ⟨wr.heap.size, 0, none⟩) z z] 34).cell (i := 0) rfl
          rwa [e1] at this
        · have e0 : RowN (wr.drew.alloc (.cells zs 3)) wr.heap.size z (fun _ => 0) := RowN.new (w1 := wr.drew) Hzs.out
          exact e0.move (Below.heap_alloc _ _ _ e0.lt)
        · have := (hst.out.rows _ q).1.lt
          omega
      clear hst hlt hsz
      go_wp2_with fail
      refine wp_region_noPanic ?_
      refine wp_region_held_drew (S := fun _ => True) (by kernel_rfl) ?_ (fun hHeld => ?_)
      · try dsimp only
        all_goals trivial
      refine wpAnyH_take (i := 0) (v := ?_) rfl (by kernel_rfl) (by kernel_rfl) (by kernel_rfl) (fun _ _ _ h => h) (Or.inl ⟨by rfl, ?_⟩) (by assumption) ?_
      rotate_left
      · intro w hSw
        try dsimp only at hSw
        simp only [List.getElem_toArray, List.getElem_cons_succ, List.getElem_cons_zero]
        go_simp
        try with_reducible rfl
      simp only [List.getElem_toArray, List.getElem_cons_succ, List.getElem_cons_zero]
      try simp only [Act.put, List.setIfInBounds_toArray, List.set_cons_zero, List.set_cons_succ]
      refine wpAnyH_take (i := 1) (v := ?_) rfl (by kernel_rfl) (by kernel_rfl) (by kernel_rfl) (fun _ _ _ h => h) (Or.inl ⟨by rfl, ?_⟩) (by assumption) ?_
      rotate_left
      · intro w hSw
        try dsimp only at hSw
        simp only [List.getElem_toArray, List.getElem_cons_succ, List.getElem_cons_zero]
        go_simp
        try with_reducible rfl
      simp only [List.getElem_toArray, List.getElem_cons_succ, List.getElem_cons_zero]
      try simp only [Act.put, List.setIfInBounds_toArray, List.set_cons_zero, List.set_cons_succ]
      refine wpAnyH_take (i := 2) (v := ?_) rfl (by kernel_rfl) (by kernel_rfl) (by kernel_rfl) (fun _ _ _ h => h) (Or.inl ⟨by rfl, ?_⟩) (by assumption) ?_
      rotate_left
      · intro w hSw
        try dsimp only at hSw
        simp only [List.getElem_toArray, List.getElem_cons_succ, List.getElem_cons_zero]
        go_simp
        try with_reducible rfl
      simp only [List.getElem_toArray, List.getElem_cons_succ, List.getElem_cons_zero]
      try simp only [Act.put, List.setIfInBounds_toArray, List.set_cons_zero, List.set_cons_succ]
      refine wpAnyH_take (i := 3) (v := ?_) rfl (by kernel_rfl) (by kernel_rfl) (by kernel_rfl) (fun _ _ _ h => h) (Or.inl ⟨by rfl, ?_⟩) (by assumption) ?_
      rotate_left
      · intro w hSw
        try dsimp only at hSw
        simp only [List.getElem_toArray, List.getElem_cons_succ, List.getElem_cons_zero]
        go_simp
        try with_reducible rfl
      simp only [List.getElem_toArray, List.getElem_cons_succ, List.getElem_cons_zero]
      try simp only [Act.put, List.setIfInBounds_toArray, List.set_cons_zero, List.set_cons_succ]
      refine wpAnyH_take (i := 5) (v := ?_) rfl (by kernel_rfl) (by kernel_rfl) (by kernel_rfl) (fun _ _ _ h => h) (Or.inl ⟨by rfl, ?_⟩) (by assumption) ?_
      rotate_left
      · intro w hSw
        try dsimp only at hSw
        simp only [List.getElem_toArray, List.getElem_cons_succ, List.getElem_cons_zero]
        go_simp
        try with_reducible rfl
      simp only [List.getElem_toArray, List.getElem_cons_succ, List.getElem_cons_zero]
      try simp only [Act.put, List.setIfInBounds_toArray, List.set_cons_zero, List.set_cons_succ]
      refine wpAnyH_ready (rs := [4, 6]) (by kernel_rfl) (by simp) ?_
      refine AllReadyH.cons rfl (fun K hK => ?_) ?_
      · skip
        simp only [List.getElem_toArray, List.getElem_cons_succ, List.getElem_cons_zero]
        go_simp
        refine hK.out _ _ ?_ (fun hHeld => ?_)
        · try dsimp only
          all_goals trivial
        clear hK K
        try simp only [List.getElem_toArray, List.getElem_cons_succ, List.getElem_cons_zero]
        try simp only [Act.put, List.setIfInBounds_toArray, List.set_cons_zero, List.set_cons_succ]
        refine wpAnyH_ready (rs := [6]) (by kernel_rfl) (by simp) ?_
        refine AllReadyH.cons rfl (fun K hK => ?_) ?_
        · skip
          simp only [List.getElem_toArray, List.getElem_cons_succ, List.getElem_cons_zero]
          go_simp
          refine hK.out _ _ ?_ (fun hHeld => ?_)
          · try dsimp only
            all_goals trivial
          clear hK K
          try simp only [List.getElem_toArray, List.getElem_cons_succ, List.getElem_cons_zero]
          try simp only [Act.put, List.setIfInBounds_toArray, List.set_cons_zero, List.set_cons_succ]
          refine wpAnyH_ready (rs := [7]) (by kernel_rfl) (by simp) ?_
          refine AllReadyH.cons rfl (fun K hK => ?_) ?_
          · skip
            simp only [List.getElem_toArray, List.getElem_cons_succ, List.getElem_cons_zero]
            go_simp
            refine hK.out _ _ ?_ (fun hHeld => ?_)
            · try dsimp only
              all_goals trivial
            clear hK K
            try simp only [List.getElem_toArray, List.getElem_cons_succ, List.getElem_cons_zero]
            try simp only [Act.put, List.setIfInBounds_toArray, List.set_cons_zero, List.set_cons_succ]
            refine wpAnyH_ready (rs := [8]) (by kernel_rfl) (by simp) ?_
            refine AllReadyH.cons rfl (fun K hK => ?_) ?_
            · skip
              (skip; refine step_app_one8 rfl (.tmp 33) (.tmp 36) 66 34 rfl Try.underlying66 _ 24 info_ints rfl (w.heap.size + 1) v _ rfl (HS.out.1) ⟨wr.heap.size + 1, 0, none⟩ 1 _ rfl (HS.out.2.1) rfl HS.out.2.2.1 HS.out.2.2.2.1 HS.out.2.2.2.2.1 ?_; intro v4 w4 hown4 hg4 _; obtain ⟨A4, n4, c4, rfl⟩ := ownV_shape hown4; obtain ⟨f4, ⟨u4, k4⟩, hn4⟩ := HS.out.2.2.2.2.2 _ _ hown4 hg4; have H4 := Lib.hid hn4; clear hown4 hg4 hn4)
              refine hK.out _ _ ?_ (fun hHeld => ?_)
              · try dsimp only
                all_goals trivial
              clear hK K
              try simp only [List.getElem_toArray, List.getElem_cons_succ, List.getElem_cons_zero]
              try simp only [Act.put, List.setIfInBounds_toArray, List.set_cons_zero, List.set_cons_succ]
              refine wpAnyH_take (i := 9) (v := ?_) rfl (by kernel_rfl) (by kernel_rfl) (by kernel_rfl) (fun _ _ _ h => h) (Or.inl ⟨by rfl, ?_⟩) (by assumption) ?_
              rotate_left
              · intro w hSw
                try dsimp only at hSw
                simp only [List.getElem_toArray, List.getElem_cons_succ, List.getElem_cons_zero]
                go_simp
                try with_reducible rfl
              simp only [List.getElem_toArray, List.getElem_cons_succ, List.getElem_cons_zero]
              try simp only [Act.put, List.setIfInBounds_toArray, List.set_cons_zero, List.set_cons_succ]
              refine wpAnyH_take (i := 10) (v := ?_) rfl (by kernel_rfl) (by kernel_rfl) (by kernel_rfl) (fun _ _ _ h => h) (Or.inl ⟨by rfl, ?_⟩) (by assumption) ?_
              rotate_left
              · intro w hSw
                try dsimp only at hSw
                simp only [List.getElem_toArray, List.getElem_cons_succ, List.getElem_cons_zero]
                go_simp
                try with_reducible rfl
              simp only [List.getElem_toArray, List.getElem_cons_succ, List.getElem_cons_zero]
              try simp only [Act.put, List.setIfInBounds_toArray, List.set_cons_zero, List.set_cons_succ]
              refine wpAnyH_ready (rs := [11]) (by kernel_rfl) (by simp) ?_
              refine AllReadyH.cons rfl (fun K hK => ?_) ?_
              · skip
                simp only [List.getElem_toArray, List.getElem_cons_succ, List.getElem_cons_zero]
                go_simp
                refine hK.out _ _ ?_ (fun hHeld => ?_)
                · try dsimp only
                  all_goals trivial
                clear hK K
                try simp only [List.getElem_toArray, List.getElem_cons_succ, List.getElem_cons_zero]
                try simp only [Act.put, List.setIfInBounds_toArray, List.set_cons_zero, List.set_cons_succ]
                refine wpAnyH_done (by kernel_rfl) ?_ _
                refine NoPanic.normal ?_
                go_wp2_with fail
                go_roundw
                case rel => exact ⟨i + 1, Rs ++ [wr.heap.size], _, by go_num, by omega, (show i + 1 = (Rs ++ [wr.heap.size]).length from by rw [List.length_append, ← HRl.out]; rfl), H4.out⟩
                case measure => simp [intOf]; omega
              exact AllReadyH.nil
            exact AllReadyH.nil
          exact AllReadyH.nil
        exact AllReadyH.nil
      refine AllReadyH.cons rfl (fun K hK => ?_) ?_
      · skip
        simp only [List.getElem_toArray, List.getElem_cons_succ, List.getElem_cons_zero]
        go_simp
        refine hK.out _ _ ?_ (fun hHeld => ?_)
        · try dsimp only
          all_goals trivial
        clear hK K
        try simp only [List.getElem_toArray, List.getElem_cons_succ, List.getElem_cons_zero]
        try simp only [Act.put, List.setIfInBounds_toArray, List.set_cons_zero, List.set_cons_succ]
        refine wpAnyH_ready (rs := [4, 7]) (by kernel_rfl) (by simp) ?_
        refine AllReadyH.cons rfl (fun K hK => ?_) ?_
        · skip
          simp only [List.getElem_toArray, List.getElem_cons_succ, List.getElem_cons_zero]
          go_simp
          refine hK.out _ _ ?_ (fun hHeld => ?_)
          · try dsimp only
            all_goals trivial
          clear hK K
          try simp only [List.getElem_toArray, List.getElem_cons_succ, List.getElem_cons_zero]
          try simp only [Act.put, List.setIfInBounds_toArray, List.set_cons_zero, List.set_cons_succ]
          refine wpAnyH_ready (rs := [7]) (by kernel_rfl) (by simp) ?_
          refine AllReadyH.cons rfl (fun K hK => ?_) ?_
          · skip
            simp only [List.getElem_toArray, List.getElem_cons_succ, List.getElem_cons_zero]
            go_simp
            refine hK.out _ _ ?_ (fun hHeld => ?_)
            · try dsimp only
              all_goals trivial
            clear hK K
            try simp only [List.getElem_toArray, List.getElem_cons_succ, List.getElem_cons_zero]
            try simp only [Act.put, List.setIfInBounds_toArray, List.set_cons_zero, List.set_cons_succ]
            refine wpAnyH_ready (rs := [8]) (by kernel_rfl) (by simp) ?_
            refine AllReadyH.cons rfl (fun K hK => ?_) ?_
            · skip
              (skip; refine step_app_one8 rfl (.tmp 33) (.tmp 36) 66 34 rfl Try.underlying66 _ 24 info_ints rfl (w.heap.size + 1) v _ rfl (HS.out.1) ⟨wr.heap.size + 1, 0, none⟩ 1 _ rfl (HS.out.2.1) rfl HS.out.2.2.1 HS.out.2.2.2.1 HS.out.2.2.2.2.1 ?_; intro v4 w4 hown4 hg4 _; obtain ⟨A4, n4, c4, rfl⟩ := ownV_shape hown4; obtain ⟨f4, ⟨u4, k4⟩, hn4⟩ := HS.out.2.2.2.2.2 _ _ hown4 hg4; have H4 := Lib.hid hn4; clear hown4 hg4 hn4)
              refine hK.out _ _ ?_ (fun hHeld => ?_)
              · try dsimp only
                all_goals trivial
              clear hK K
              try simp only [List.getElem_toArray, List.getElem_cons_succ, List.getElem_cons_zero]
              try simp only [Act.put, List.setIfInBounds_toArray, List.set_cons_zero, List.set_cons_succ]
              refine wpAnyH_take (i := 9) (v := ?_) rfl (by kernel_rfl) (by kernel_rfl) (by kernel_rfl) (fun _ _ _ h => h) (Or.inl ⟨by rfl, ?_⟩) (by assumption) ?_
              rotate_left
              · intro w hSw
                try dsimp only at hSw
                simp only [List.getElem_toArray, List.getElem_cons_succ, List.getElem_cons_zero]
                go_simp
                try with_reducible rfl
              simp only [List.getElem_toArray, List.getElem_cons_succ, List.getElem_cons_zero]
              try simp only [Act.put, List.setIfInBounds_toArray, List.set_cons_zero, List.set_cons_succ]
              refine wpAnyH_take (i := 10) (v := ?_) rfl (by kernel_rfl) (by kernel_rfl) (by kernel_rfl) (fun _ _ _ h => h) (Or.inl ⟨by rfl, ?_⟩) (by assumption) ?_
              rotate_left
              · intro w hSw
                try dsimp only at hSw
                simp only [List.getElem_toArray, List.getElem_cons_succ, List.getElem_cons_zero]
                go_simp
                try with_reducible rfl
              simp only [List.getElem_toArray, List.getElem_cons_succ, List.getElem_cons_zero]
              try simp only [Act.put, List.setIfInBounds_toArray, List.set_cons_zero, List.set_cons_succ]
              refine wpAnyH_ready (rs := [11]) (by kernel_rfl) (by simp) ?_
              refine AllReadyH.cons rfl (fun K hK => ?_) ?_
              · skip
                simp only [List.getElem_toArray, List.getElem_cons_succ, List.getElem_cons_zero]
                go_simp
                refine hK.out _ _ ?_ (fun hHeld => ?_)
                · try dsimp only
                  all_goals trivial
                clear hK K
                try simp only [List.getElem_toArray, List.getElem_cons_succ, List.getElem_cons_zero]
                try simp only [Act.put, List.setIfInBounds_toArray, List.set_cons_zero, List.set_cons_succ]
                refine wpAnyH_done (by kernel_rfl) ?_ _
                refine NoPanic.normal ?_
                go_wp2_with fail
                go_roundw
                case rel => exact ⟨i + 1, Rs ++ [wr.heap.size], _, by go_num, by omega, (show i + 1 = (Rs ++ [wr.heap.size]).length from by rw [List.length_append, ← HRl.out]; rfl), H4.out⟩
                case measure => simp [intOf]; omega
              exact AllReadyH.nil
            exact AllReadyH.nil
          exact AllReadyH.nil
        refine AllReadyH.cons rfl (fun K hK => ?_) ?_
        · skip
          simp only [List.getElem_toArray, List.getElem_cons_succ, List.getElem_cons_zero]
          go_simp
          refine hK.out _ _ ?_ (fun hHeld => ?_)
          · try dsimp only
            all_goals trivial
          clear hK K
          try simp only [List.getElem_toArray, List.getElem_cons_succ, List.getElem_cons_zero]
          try simp only [Act.put, List.setIfInBounds_toArray, List.set_cons_zero, List.set_cons_succ]
          refine wpAnyH_ready (rs := [4]) (by kernel_rfl) (by simp) ?_
          refine AllReadyH.cons rfl (fun K hK => ?_) ?_
          · skip
            simp only [List.getElem_toArray, List.getElem_cons_succ, List.getElem_cons_zero]
            go_simp
            refine hK.out _ _ ?_ (fun hHeld => ?_)
            · try dsimp only
              all_goals trivial
            clear hK K
            try simp only [List.getElem_toArray, List.getElem_cons_succ, List.getElem_cons_zero]
            try simp only [Act.put, List.setIfInBounds_toArray, List.set_cons_zero, List.set_cons_succ]
            refine wpAnyH_ready (rs := [8]) (by kernel_rfl) (by simp) ?_
            refine AllReadyH.cons rfl (fun K hK => ?_) ?_
            · skip
              (skip; refine step_app_one8 rfl (.tmp 33) (.tmp 36) 66 34 rfl Try.underlying66 _ 24 info_ints rfl (w.heap.size + 1) v _ rfl (HS.out.1) ⟨wr.heap.size + 1, 0, none⟩ 1 _ rfl (HS.out.2.1) rfl HS.out.2.2.1 HS.out.2.2.2.1 HS.out.2.2.2.2.1 ?_; intro v4 w4 hown4 hg4 _; obtain ⟨A4, n4, c4, rfl⟩ := ownV_shape hown4; obtain ⟨f4, ⟨u4, k4⟩, hn4⟩ := HS.out.2.2.2.2.2 _ _ hown4 hg4; have H4 := Lib.hid hn4; clear hown4 hg4 hn4)
              refine hK.out _ _ ?_ (fun hHeld => ?_)
              · try dsimp only
                all_goals trivial
              clear hK K
              try simp only [List.getElem_toArray, List.getElem_cons_succ, List.getElem_cons_zero]
              try simp only [Act.put, List.setIfInBounds_toArray, List.set_cons_zero, List.set_cons_succ]
              refine wpAnyH_take (i := 9) (v := ?_) rfl (by kernel_rfl) (by kernel_rfl) (by kernel_rfl) (fun _ _ _ h => h) (Or.inl ⟨by rfl, ?_⟩) (by assumption) ?_
              rotate_left
              · intro w hSw
                try dsimp only at hSw
                simp only [List.getElem_toArray, List.getElem_cons_succ, List.getElem_cons_zero]
                go_simp
                try with_reducible rfl
              simp only [List.getElem_toArray, List.getElem_cons_succ, List.getElem_cons_zero]
              try simp only [Act.put, List.setIfInBounds_toArray, List.set_cons_zero, List.set_cons_succ]
              refine wpAnyH_take (i := 10) (v := ?_) rfl (by kernel_rfl) (by kernel_rfl) (by kernel_rfl) (fun _ _ _ h => h) (Or.inl ⟨by rfl, ?_⟩) (by assumption) ?_
              rotate_left
              · intro w hSw
                try dsimp only at hSw
                simp only [List.getElem_toArray, List.getElem_cons_succ, List.getElem_cons_zero]
                go_simp
                try with_reducible rfl
              simp only [List.getElem_toArray, List.getElem_cons_succ, List.getElem_cons_zero]
              try simp only [Act.put, List.setIfInBounds_toArray, List.set_cons_zero, List.set_cons_succ]
              refine wpAnyH_ready (rs := [11]) (by kernel_rfl) (by simp) ?_
              refine AllReadyH.cons rfl (fun K hK => ?_) ?_
              · skip
                simp only [List.getElem_toArray, List.getElem_cons_succ, List.getElem_cons_zero]
                go_simp
                refine hK.out _ _ ?_ (fun hHeld => ?_)
                · try dsimp only
                  all_goals trivial
                clear hK K
                try simp only [List.getElem_toArray, List.getElem_cons_succ, List.getElem_cons_zero]
                try simp only [Act.put, List.setIfInBounds_toArray, List.set_cons_zero, List.set_cons_succ]
                refine wpAnyH_done (by kernel_rfl) ?_ _
                refine NoPanic.normal ?_
                go_wp2_with fail
                go_roundw
                case rel => exact ⟨i + 1, Rs ++ [wr.heap.size], _, by go_num, by omega, (show i + 1 = (Rs ++ [wr.heap.size]).length from by rw [List.length_append, ← HRl.out]; rfl), H4.out⟩
                case measure => simp [intOf]; omega
              exact AllReadyH.nil
            exact AllReadyH.nil
          exact AllReadyH.nil
        exact AllReadyH.nil
      exact AllReadyH.nil
    · obtain rfl : i = d := by omega
      have Hfin : Hid (∃ lb cap R, RefT wr w.heap.size lb cap i z R (fun _ _ => 0) ∧ Below w.heap.size w wr ∧ w.heap.size ≤ lb ∧ ∀ k, k < i → w.heap.size ≤ R k) := by
        have hs := hst.out
        have hl := HRl.out
        rcases hs.own.form with ⟨_, h0⟩ | ⟨lb, cap, cur, hv, hb, hgg, hn, hm, hsz, htk⟩
        · have := congrArg List.length h0
          rw [hdrs_length] at this
          simp at this
          subst this
          simp at hl
          omega
        · rw [hdrs_length, ← hl] at hv hn htk
          refine ⟨lb, cap, fun k => Rs.getD k 0, ⟨hd1, hd2, hz2, hn, hv ▸ hs.tc, ⟨cur, hgg, fun k hk => ?_⟩, fun k hk => ?_, fun k k' hk hk' e => ?_, fun _ _ => Nat.zero_le _⟩, hs.bel, by omega, fun k hk => ?_⟩
          · have e : (cur.take i)[k]? = cur[k]? := by rw [List.getElem?_take, if_pos hk]
            rw [← e, htk]
            have hk' : k < Rs.length := by omega
            simp [hdrs, List.getElem?_map, List.getElem?_eq_getElem hk', List.getD]
          · have hk' : k < Rs.length := by omega
            have : Rs.getD k 0 ∈ Rs := by simp [List.getD, List.getElem?_eq_getElem hk']
            exact (hs.rows _ this).1
          · have hk1 : k < Rs.length := by omega
            have hk2 : k' < Rs.length := by omega
            simp only [List.getD, List.getElem?_eq_getElem hk1, List.getElem?_eq_getElem hk2, Option.getD_some] at e
            have hnd := List.pairwise_iff_getElem.1 hs.nd
            rcases Nat.lt_trichotomy k k' with q | q | q
            · exact absurd e (hnd k k' hk1 hk2 q)
            · exact q
            · exact absurd e.symm (hnd k' k hk2 hk1 q)
          · have hk' : k < Rs.length := by omega
            have : Rs.getD k 0 ∈ Rs := by simp [List.getD, List.getElem?_eq_getElem hk']
            have := (hs.rows _ this).2
            show w.heap.size ≤ Rs.getD k 0
            omega
      clear hst hlt
      go_wp2_with fail
      go_ret2
      obtain ⟨lb, cap, R, h1, h2, h3, h4⟩ := Hfin.out
      exact ⟨_, _, _, rfl, h1, h2, h3, h4⟩
theorem rnew_bad (d z : Int) (h : ¬ (1 ≤ d ∧ d ≤ 32 ∧ 1 ≤ z ∧ z ≤ 4096)) (w : World) : Calls Try.prog 9 #[.int .i64 d, .int .i64 z] w fun e w' => e = .returned (.tuple #[.pointer none, .int .i64 1]) ∧ w' = w := by
  by_cases a1 : d < 1
  · go_enter Try.func9, Try.ntmps9
    go_wp2_with fail
    go_ret2
    exact ⟨rfl, rfl⟩
  by_cases a2 : 32 < d
  · go_enter Try.func9, Try.ntmps9
    go_wp2_with fail
    go_ret2
    exact ⟨rfl, rfl⟩
  by_cases a3 : z < 1
  · go_enter Try.func9, Try.ntmps9
    go_wp2_with fail
    go_ret2
    exact ⟨rfl, rfl⟩
  have a4 : 4096 < z := by omega
  go_enter Try.func9, Try.ntmps9
  go_wp2_with fail
  go_ret2
  exact ⟨rfl, rfl⟩
end
end Go.Proofs.Ytajpnjapfiffmaa

/-
  The second saying's table: Take.
-/
namespace Go.Proofs.Ytajpnjapfiffmaa
open Go.RowKit Go.Maps Go.Shelf Go.Lib Go.Sort

def len8 : Value → Nat
  | .slice _ n _ => n
  | _ => 0
theorem intsA_len (l : List Int) : (intsA l).length = l.length := by simp [intsA]
/-- the drives chosen, in memory -/
structure WithR (w wr : World) (A : Option Addr) (c : Nat) (l : List Int) : Prop where
  own : OwnV wr w.heap.size 3 (.slice A l.length c) (intsA l)
  bel : Below w.heap.size w wr
/-- units are taken, drive by drive -/
structure TkR (w wr : World) (rb lb cap D Z : Nat) (R : Nat → Nat) (g : St) (L : List Nat) (A : Option Addr) (c : Nat) (W : List Int) (i : Nat) (v : Value) : Prop where
  tab : RefT wr rb lb cap D Z R (takeAll g Z (L.filter fun d => decide (d < i)))
  own : OwnU wr w.heap.size v (tookU g Z (L.filter fun d => decide (d < i)))
  kept : Kept (NotR D R) w wr
  wit : OwnV wr w.heap.size 3 (.slice A W.length c) (intsA W)
section
set_option maxRecDepth 20000
set_option maxHeartbeats 1600000
variable {w w' : World} {rb lb cap D Z : Nat} {R : Nat → Nat} {g : St}
theorem ri_of {w : World} {base : Nat} {A : Option Addr} {c : Nat} {l : List Int} (h : OwnV w base 3 (.slice A l.length c) (intsA l)) : RI w w.heap.size A l := by
  obtain ⟨A', c', e, _, hr⟩ := RI.of_own (l := l) h
  cases e
  exact hr
theorem cells_two (w : World) (o : Obj) (x y : Value) (t : TypeId) (_ : Unit) : Cells ((w.alloc o).alloc (.cells #[x, y] t)) (w.heap.size + 1) t [x, y] := by
  simpa using Cells.new (w.alloc o) #[x, y] t
theorem TkR.snoc {wr w1 w3 : World} {L : List Nat} {A : Option Addr} {c i : Nat} {W : List Int} {v v3 : Value} {o o' : Obj} (h0 : RefT w rb lb cap D Z R g) (h : TkR w wr rb lb cap D Z R g L A c W i v) (hL : L.Pairwise (· < ·)) (hi : i ∈ L)
    (h1 : RefT w1 rb lb cap D Z R (takeU (takeAll g Z (L.filter fun d => decide (d < i))) Z i)) (hk : Kept (NotR D R) wr w1)
    (ho : OwnU w3 w.heap.size v3 (tookU g Z (L.filter fun d => decide (d < i)) ++ [((i : Int), ((low (g i) Z : Nat) : Int))])) (hg : ((w1.alloc o).alloc o').grownBy w3 v.ownBlock) :
    TkR w w3 rb lb cap D Z R g L A c W (i + 1) v3 := by
  have hf := filter_succ hL i
  rw [if_pos hi] at hf
  have hrb := h0.tc.lt
  have hlb := h0.lb_lt
  have hR := fun d hd => (h0.rows d hd).lt
  have hT := (h1.alloc o).alloc o'
  have hW1 : OwnV w1 w.heap.size 3 (.slice A W.length c) (intsA W) := h.wit.move fun b hb => hk.block b (h.wit.ge b hb).2 fun d hd e => by
    have := (h.wit.ge b hb).1; have := hR d hd; omega
  have hW := (hW1.alloc o).alloc o'
  refine ⟨?_, ?_, ?_, hW.move fun b hb => ?_⟩
  · rw [hf, takeAll_snoc]
    refine hT.move (hg.block _ hT.tc.lt ?_) (hg.block _ hT.lb_lt ?_) (fun d hd => hg.block _ (hT.rows d hd).lt ?_)
    · intro e; have := (h.own.ge _ e.symm).1; omega
    · intro e; have := (h.own.ge _ e.symm).1; omega
    · intro e; have := (h.own.ge _ e.symm).1; have := hR d hd; omega
  · rw [hf]
    simpa [tookU] using ho
  · have k2 := ((h.kept.trans hk).alloc o).alloc o'
    exact ⟨hg.os.trans k2.os, hg.tape.trans k2.tape, hg.output.trans k2.output, Nat.le_trans k2.size hg.size, fun b hb hq => (hg.block b (Nat.lt_of_lt_of_le hb k2.size) (fun e => by have := (h.own.ge _ e.symm).1; omega)).trans (k2.block b hb hq)⟩
  · refine hg.block b (hW.ge b hb).2 fun e => ?_
    rcases h.wit.form with ⟨q, _⟩ | ⟨g1, cap1, cur1, q, _, hc1, _⟩
    · rw [q] at hb; cases hb
    · rw [q] at hb
      cases hb
      rcases h.own.2 with ⟨q2, _⟩ | ⟨g2, cap2, cur2, q2, _, hc2, _⟩
      · rw [q2] at e; cases e
      · rw [q2] at e
        cases e
        unfold Cells at hc1
        rw [hc1] at hc2
        simp at hc2
theorem rtake_any (n : Nat) (hn : 1 ≤ n ∧ n ≤ 32) (A : Option Addr) (c m : Nat) (wo : List Int) (hm : m = wo.length) (hl : m ≤ 1099511627776) (hr : RI w w.heap.size A wo) (h : RefT w rb lb cap D Z R g)
    (M : List Int) (hp : M.Perm (roomyL g Z wo D)) (ha : Asc (frF g D Z) M) (L : List Nat) (hL : n ≤ M.length → (L.map fun (d : Nat) => (d : Int)).Perm (M.take n) ∧ L.Pairwise (· < ·)) :
    Calls Try.prog 11 #[.pointer (some ⟨rb, 0, none⟩), .int .i64 (n : Int), .slice A m c] w fun e w' => ∃ v us er g', e = .returned (.tuple #[v, .int .i64 er]) ∧ RefT w' rb lb cap D Z R g' ∧ Kept (NotR D R) w w' ∧ OwnU w' w.heap.size v us ∧
      ((M.length < n ∧ us = [] ∧ er = 5 ∧ g' = g) ∨ (n ≤ M.length ∧ us = tookU g Z L ∧ er = 0 ∧ g' = takeAll g Z L)) := by
  obtain ⟨hn1, hn2⟩ := hn
  have H := Lib.hid h
  have hD : (D : Int) ≤ 32 := by have := h.d2; omega
  have hDn := h.d2
  have hnlt : ¬ (n : Int) < 1 := by omega
  have hngt : ¬ 32 < (n : Int) := by omega
  have hngt' : ¬ 32 < n := by omega
  have hn0 : ¬ n < 1 := by omega
  have Hbest := Lib.hid fun j => best_next hp ha j
  have HML : Hid (M.length ≤ 32) := by
    have h1 := hp.length_eq
    have h2 := roomyL_len g Z wo D
    show _ ≤ _
    omega
  have HMnat : Hid (∀ (j : Nat) (hj : j < M.length), ∃ d : Nat, M[j] = (d : Int) ∧ d < D ∧ 0 < cnt (g d) 0 Z) := fun j hj => by
    obtain ⟨d, h1, h2, h3, _⟩ := (roomyL_mem g Z wo D M[j]).1 (hp.mem_iff.1 (List.getElem_mem hj))
    exact ⟨d, h2, h1, h3⟩
  have HLm : Hid (n ≤ M.length → (∀ d : Nat, (d : Int) ∈ M.take n ↔ d ∈ L) ∧ L.Pairwise (· < ·) ∧ (∀ d ∈ L, d < D ∧ 0 < cnt (g d) 0 Z) ∧ L.length ≤ 32) := fun hnM => by
    obtain ⟨h1, h2⟩ := hL hnM
    have hm : ∀ d : Nat, (d : Int) ∈ M.take n ↔ d ∈ L := fun d => by
      rw [← h1.mem_iff, List.mem_map]
      constructor
      · rintro ⟨d', q1, q2⟩
        obtain rfl : d' = d := by omega
        exact q1
      · intro q; exact ⟨d, q, rfl⟩
    refine ⟨hm, h2, fun d hd => ?_, ?_⟩
    · have := List.mem_of_mem_take ((hm d).2 hd)
      obtain ⟨d', q1, q2, q3, _⟩ := (roomyL_mem g Z wo D d).1 (hp.mem_iff.1 this)
      obtain rfl : d = d' := by omega
      exact ⟨q1, q3⟩
    · have := h1.length_eq
      simp at this
      omega
  have Hin1 : Hid (∀ W x, Below w.heap.size w W → Calls Try.prog 33 #[.slice A m c, .int .i64 x] W fun e w' => e = .returned (.bool (decide (x ∈ wo))) ∧ w' = W) := fun W x hb => rin_any A c m wo x hm hl ((hr.below hb).move (fun _ _ => rfl) hb.size)
  have Hfr : Hid (∀ W x, Below w.heap.size w W → Calls Try.prog 23 #[.pointer (some ⟨rb, 0, none⟩), .int .i64 x] W fun e w' => e = .returned (.int .i64 (freeOn g D Z x : Nat)) ∧ w' = W) := fun W x hb => rfreeOn_any x (h.below hb)
  have H0 : Hid (WithR w w none 0 (M.take 0)) := ⟨OwnV.nil _ _ _, Below.refl _ _⟩
  clear h hr hl hm hp ha hL
  go_enter Try.func11, Try.ntmps11
  go_wp2_with fail
  go_loopw [8] (fun wv wr => ∃ (j : Nat) (A' : Option Addr) (c' : Nat), wv = .slice A' j c' ∧ j ≤ n ∧ Hid (j ≤ M.length) ∧ Hid (WithR w wr A' c' (M.take j))) (fun wv _ => n - len8 wv)
  case atStart => exact ⟨0, none, 0, rfl, Nat.zero_le _, Nat.zero_le _, H0.out⟩
  case round =>
    obtain ⟨j, A', c', rfl, hj, hjM, hw⟩ := hrel
    have Hjl : Hid (j = (M.take j).length) := by
      have := hjM.out
      show _ = _
      simp
      omega
    by_cases hlt : j < n
    · have hlt' : (j : Int) < (n : Int) := by omega
      have Hlt := Lib.hid hlt
      have c0 := (H.out.below hw.out.bel).c0
      have Hin2 : Hid (∀ x, Calls Try.prog 33 #[.slice A' j c', .int .i64 x] wr fun e w' => e = .returned (.bool (decide (x ∈ M.take j))) ∧ w' = wr) := fun x => by
        have := rin_any A' c' (M.take j).length (M.take j) x rfl (by rw [← Hjl.out]; omega) (ri_of hw.out.own)
        rwa [← Hjl.out] at this
      have Hin1' := Lib.hid fun x => Hin1.out wr x hw.out.bel
      have Hfr' := Lib.hid fun x => Hfr.out wr x hw.out.bel
      have Hb := Lib.hid (Hbest.out j)
      have Hw := hw
      generalize wr = W1 at *
      clear hlt hw
      go_wp2_with fail
      go_loopw [9, 10] (fun bv iv wr => wr = W1 ∧ ∃ (i : Nat), bv = .int .i64 (bestK (candB g Z wo (M.take j)) (fun d => cnt (g d) 0 Z) i) ∧ iv = .int .i64 (i : Int) ∧ i ≤ D) (fun _ iv _ => D - (intOf iv).toNat)
      case atStart => exact ⟨rfl, 0, rfl, rfl, Nat.zero_le _⟩
      case round =>
        obtain ⟨rfl, i, rfl, rfl, hi⟩ := hrel
        by_cases hid : i < D
        · have hid' : (i : Int) < (D : Int) := by omega
          have Hnot : Hid (candB g Z wo (M.take j) i = false → bestK (candB g Z wo (M.take j)) (fun d => cnt (g d) 0 Z) (i + 1) = bestK (candB g Z wo (M.take j)) (fun d => cnt (g d) 0 Z) i) := fun q => by
            rw [bestK, if_neg (fun q2 => by rw [q] at q2; cases q2.1)]
          have Hi1 := Lib.hid (Hin1'.out (i : Int))
          have Hi2 := Lib.hid (Hin2.out (i : Int))
          have Hi3 := Lib.hid (Hfr'.out (i : Int))
          rw [freeOn_nat g hid] at Hi3
          by_cases q1 : (i : Int) ∈ wo
          · have Hn := Lib.hid (Hnot.out (decide_eq_false fun q => q.1 q1))
            rw [decide_eq_true q1] at Hi1
            generalize bestK (candB g Z wo (M.take j)) (fun d => cnt (g d) 0 Z) i = bb at *
            clear Hnot q1 Hi2 Hi3
            go_wp2_with fail
            refine Hi1.out.mono ?_
            rintro e w1 ⟨rfl, rfl⟩
            go_wp2_with fail
            go_roundw
            case rel => exact ⟨by trivial, i + 1, by rw [Hn.out], by go_num, by omega⟩
            case measure => simp [intOf]; omega
          rw [decide_eq_false q1] at Hi1
          by_cases q2 : (i : Int) ∈ M.take j
          · have Hn := Lib.hid (Hnot.out (decide_eq_false fun q => q.2.1 q2))
            rw [decide_eq_true q2] at Hi2
            generalize bestK (candB g Z wo (M.take j)) (fun d => cnt (g d) 0 Z) i = bb at *
            clear Hnot q1 q2 Hi3
            go_wp2_with fail
            refine Hi1.out.mono ?_
            rintro e w1 ⟨rfl, rfl⟩
            go_wp2_with fail
            refine Hi2.out.mono ?_
            rintro e w1 ⟨rfl, rfl⟩
            go_wp2_with fail
            go_roundw
            case rel => exact ⟨by trivial, i + 1, by rw [Hn.out], by go_num, by omega⟩
            case measure => simp [intOf]; omega
          rw [decide_eq_false q2] at Hi2
          by_cases q3 : cnt (g i) 0 Z = 0
          · have Hn := Lib.hid (Hnot.out (decide_eq_false fun q => by omega))
            rw [q3] at Hi3
            generalize bestK (candB g Z wo (M.take j)) (fun d => cnt (g d) 0 Z) i = bb at *
            clear Hnot q1 q2 q3
            go_wp2_with fail
            refine Hi1.out.mono ?_
            rintro e w1 ⟨rfl, rfl⟩
            go_wp2_with fail
            refine Hi2.out.mono ?_
            rintro e w1 ⟨rfl, rfl⟩
            go_wp2_with fail
            refine Hi3.out.mono ?_
            rintro e w1 ⟨rfl, rfl⟩
            go_wp2_with fail
            go_roundw
            case rel => exact ⟨by trivial, i + 1, by rw [Hn.out], by go_num, by omega⟩
            case measure => simp [intOf]; omega
          have hc : candB g Z wo (M.take j) i = true := decide_eq_true ⟨q1, q2, by omega⟩
          rcases bestK_spec (candB g Z wo (M.take j)) (fun d => cnt (g d) 0 Z) i with ⟨hb1, _⟩ | ⟨b, hb1, hb2, _, _⟩
          · have Hn : Hid (bestK (candB g Z wo (M.take j)) (fun d => cnt (g d) 0 Z) (i + 1) = (i : Int)) := by
              show _ = _
              rw [bestK, if_pos ⟨hc, .inl (by omega)⟩]
            rw [hb1]
            generalize cnt (g i) 0 Z = N at *
            have q3' : ¬ (N : Int) = 0 := by omega
            clear Hnot q1 q2 hc hb1
            go_wp2_with fail
            refine Hi1.out.mono ?_
            rintro e w1 ⟨rfl, rfl⟩
            go_wp2_with fail
            refine Hi2.out.mono ?_
            rintro e w1 ⟨rfl, rfl⟩
            go_wp2_with fail
            refine Hi3.out.mono ?_
            rintro e w1 ⟨rfl, rfl⟩
            go_wp2_with fail
            go_roundw
            case rel => exact ⟨by trivial, i + 1, by rw [Hn.out], by go_num, by omega⟩
            case measure => simp [intOf]; omega
          · have Hi4 := Lib.hid (Hfr'.out (b : Int))
            rw [freeOn_nat g (by omega : b < D)] at Hi4
            rw [hb2]
            have Hn : Hid ((cnt (g b) 0 Z < cnt (g i) 0 Z → bestK (candB g Z wo (M.take j)) (fun d => cnt (g d) 0 Z) (i + 1) = (i : Int)) ∧ (¬ cnt (g b) 0 Z < cnt (g i) 0 Z → bestK (candB g Z wo (M.take j)) (fun d => cnt (g d) 0 Z) (i + 1) = (b : Int))) := by
              constructor
              · intro q
                rw [bestK, if_pos ⟨hc, .inr (by rw [hb2]; simpa using q)⟩]
              · intro q
                rw [bestK, if_neg (fun q4 => by
                  rcases q4.2 with q5 | q5
                  · omega
                  · rw [hb2] at q5; simp at q5; omega), hb2]
            generalize cnt (g i) 0 Z = N at *
            generalize cnt (g b) 0 Z = N2 at *
            have q3' : ¬ (N : Int) = 0 := by omega
            clear Hnot q1 q2 hc hb1 hb2
            by_cases q4 : N2 < N
            · have Hn2 := Lib.hid (Hn.out.1 q4)
              have q4' : (N2 : Int) < (N : Int) := by omega
              clear Hn
              go_wp2_with fail
              refine Hi1.out.mono ?_
              rintro e w1 ⟨rfl, rfl⟩
              go_wp2_with fail
              refine Hi2.out.mono ?_
              rintro e w1 ⟨rfl, rfl⟩
              go_wp2_with fail
              refine Hi3.out.mono ?_
              rintro e w1 ⟨rfl, rfl⟩
              go_wp2_with fail
              refine Hi3.out.mono ?_
              rintro e w1 ⟨rfl, rfl⟩
              go_wp2_with fail
              refine Hi4.out.mono ?_
              rintro e w1 ⟨rfl, rfl⟩
              go_wp2_with fail
              go_roundw
              case rel => exact ⟨by trivial, i + 1, by rw [Hn2.out], by go_num, by omega⟩
              case measure => simp [intOf]; omega
            · have Hn2 := Lib.hid (Hn.out.2 q4)
              have q4' : ¬ (N2 : Int) < (N : Int) := by omega
              clear Hn
              go_wp2_with fail
              refine Hi1.out.mono ?_
              rintro e w1 ⟨rfl, rfl⟩
              go_wp2_with fail
              refine Hi2.out.mono ?_
              rintro e w1 ⟨rfl, rfl⟩
              go_wp2_with fail
              refine Hi3.out.mono ?_
              rintro e w1 ⟨rfl, rfl⟩
              go_wp2_with fail
              refine Hi3.out.mono ?_
              rintro e w1 ⟨rfl, rfl⟩
              go_wp2_with fail
              refine Hi4.out.mono ?_
              rintro e w1 ⟨rfl, rfl⟩
              go_wp2_with fail
              go_roundw
              case rel => exact ⟨by trivial, i + 1, by rw [Hn2.out], by go_num, by omega⟩
              case measure => simp [intOf]; omega
        · obtain rfl : i = D := by omega
          by_cases hMj : j < M.length
          · obtain ⟨d, hd1, hd2, hd3⟩ := HMnat.out j hMj
            rw [Hb.out.2 hMj, hd1]
            have Hnx : Hid (∀ (o : Obj) (v3 : Value) (w3 : World), OwnV w3 w.heap.size 3 v3 (intsA (M.take j) ++ [.int .i64 (d : Int)]) → (wr.alloc o).grownBy w3 (Value.ownBlock (.slice A' j c')) → ∃ A3 c3, v3 = .slice A3 (j + 1) c3 ∧ WithR w w3 A3 c3 (M.take (j + 1))) := fun o v3 w3 ho hg => by
              have hl1 : (M.take (j + 1)).length = j + 1 := by simp; omega
              have ht : intsA (M.take j) ++ [.int .i64 (d : Int)] = intsA (M.take (j + 1)) := by
                rw [List.take_add_one, List.getElem?_eq_getElem hMj, hd1]
                simp [intsA]
              rw [ht] at ho
              obtain ⟨A3, c3, e, _⟩ := ho.rd
              rw [intsA_len] at e
              refine ⟨A3, c3, by rw [e, hl1], by rw [← e]; exact ho, ?_⟩
              have hb := Hw.out.bel.alloc (Hw.out.bel.size) o
              refine hb.grown hg hb.size fun k hk => ?_
              have := Hw.out.own.ge k (by rw [← Hjl.out]; exact hk)
              exact this.1
            have Hap : Hid (∀ o, OwnV (wr.alloc o) w.heap.size 3 (.slice A' j c') (intsA (M.take j))) := fun o => by
              have := Hw.out.own.alloc o
              rwa [← Hjl.out] at this
            have Hsz : Hid ((intsA (M.take j)).length + 1 ≤ 140737488355327 ∧ ((intsA (M.take j)).length + 1) * 8 ≤ 140737488355328 ∧ w.heap.size ≤ wr.heap.size + 1) := by
              have h1 : (intsA (M.take j)).length = j := by rw [intsA_len, ← Hjl.out]
              have h2 := Hw.out.bel.size
              rw [h1]
              exact ⟨by omega, by omega, by omega⟩
            have HjM1 : Hid (j + 1 ≤ M.length) := hMj
            have Hlt2 := Hlt
            clear hid hMj hd1 hd2 hd3 hi
            go_wp2_with (at_builtin; go_must (refine app_one rfl (.tmp 62) (.tmp 64) 34 3 rfl Try.underlying34 _ 8 info_int8 rfl w.heap.size _ _ rfl (Hap.out _) ⟨wr.heap.size, 0, none⟩ 1 (.int .i64 (d : Int)) rfl (cell_new wr _ _) rfl Hsz.out.1 Hsz.out.2.1 (by have := Hsz.out.2.2; simpa using this) ?_); intro v3 w3 ho3 hg3 _; obtain ⟨A3, c3, rfl, hn3⟩ := Hnx.out _ v3 w3 ho3 hg3; have H3 := Lib.hid hn3; clear ho3 hg3 hn3 Hnx)
            go_roundw
            case rel => exact ⟨j + 1, _, _, rfl, by have := Hlt2.out; omega, HjM1.out, H3.out⟩
            case measure => have := Hlt2.out; simp [len8]; omega
          · have Hfin : Hid (M.length < n ∧ Kept (NotR i R) w wr ∧ RefT wr rb lb cap i Z R g) := ⟨by have := Hlt.out; omega, (Kept.refl _ _).below Hw.out.bel, H.out.below Hw.out.bel⟩
            rw [Hb.out.1 (by omega)]
            clear hid hMj
            go_wp2_with fail
            go_ret2
            exact ⟨_, [], 5, g, rfl, Hfin.out.2.2, Hfin.out.2.1, OwnU.nil _ _, .inl ⟨Hfin.out.1, rfl, rfl, rfl⟩⟩
    · obtain rfl : j = n := by omega
      obtain ⟨hmem, hasc, hlt2, hL32⟩ := HLm.out hjM.out
      have HM := Lib.hid hmem
      have HA := Lib.hid hasc
      have HL2 := Lib.hid hlt2
      have Hst : Hid (TkR w wr rb lb cap D Z R g L A' c' (M.take j) 0 (.slice none 0 0)) := ⟨by rw [filter_none]; exact H.out.below hw.out.bel, by rw [filter_none]; exact OwnU.nil _ _, (Kept.refl _ _).below hw.out.bel, hw.out.own⟩
      have Hfin : Hid (∀ (W : World) (v : Value), TkR w W rb lb cap D Z R g L A' c' (M.take j) D v → RefT W rb lb cap D Z R (takeAll g Z L) ∧ Kept (NotR D R) w W ∧ OwnU W w.heap.size v (tookU g Z L)) := fun W v q => by
        obtain ⟨q1, q2, q3, _⟩ := q
        rw [filter_all fun d hd => (HL2.out d hd).1] at q1 q2
        exact ⟨q1, q3, q2⟩
      have Hlen : Hid (∀ i, (L.filter fun d => decide (d < i)).length ≤ 32) := fun i => Nat.le_trans (List.length_filter_le _ _) hL32
      clear hw hmem hasc hlt2 hL32 hlt
      generalize wr = W1 at *
      go_wp2_with fail
      go_loopw [11, 12] (fun ov iv wr => ∃ (i : Nat) (v : Value), v = ov ∧ iv = .int .i64 (i : Int) ∧ i ≤ D ∧ Hid (TkR w wr rb lb cap D Z R g L A' c' (M.take j) i v)) (fun _ iv _ => D - (intOf iv).toNat)
      case atStart => exact ⟨0, _, rfl, rfl, Nat.zero_le _, Hst.out⟩
      case round =>
        obtain ⟨i, ov, rfl, rfl, hi, hst⟩ := hrel
        have d0 := hst.out.tab.c0
        by_cases hid : i < D
        · have hid' : (i : Int) < (D : Int) := by omega
          have Hin2 : Hid (∀ x, Calls Try.prog 33 #[.slice A' j c', .int .i64 x] wr fun e w' => e = .returned (.bool (decide (x ∈ M.take j))) ∧ w' = wr) := fun x => by
            have := rin_any A' c' (M.take j).length (M.take j) x rfl (by rw [← Hjl.out]; omega) (ri_of hst.out.wit)
            rwa [← Hjl.out] at this
          have Hi2 := Lib.hid (Hin2.out (i : Int))
          by_cases q : i ∈ L
          · rw [decide_eq_true ((HM.out i).2 q)] at Hi2
            have hnot : i ∉ L.filter fun d => decide (d < i) := fun q2 => by simp at q2
            have hrow : takeAll g Z (L.filter fun d => decide (d < i)) i = g i := takeAll_row Z i _ g hnot
            have hpos := (HL2.out i q).2
            have Hv : Hid (takeOnV (takeAll g Z (L.filter fun d => decide (d < i))) D Z (i : Int) = .tuple #[.agg #[.int .i64 (i : Int), .int .i64 (low (g i) Z : Nat)], .int .i64 0] ∧ takeOnG (takeAll g Z (L.filter fun d => decide (d < i))) D Z (i : Int) = takeU (takeAll g Z (L.filter fun d => decide (d < i))) Z i) := by
              unfold takeOnV takeOnG
              rw [Int.toNat_natCast, hrow, if_pos ⟨by omega, hid'⟩, if_pos hpos, if_pos ⟨by omega, hid', hpos⟩]
              exact ⟨rfl, rfl⟩
            have Htk := Lib.hid (rtakeOn_any (i : Int) hst.out.tab)
            rw [Hv.out.1, Hv.out.2] at Htk
            have Hnx : Hid (∀ (w1 w3 : World) (v3 : Value) (o o' : Obj), RefT w1 rb lb cap D Z R (takeU (takeAll g Z (L.filter fun d => decide (d < i))) Z i) → Kept (NotR D R) wr w1 → OwnU w3 w.heap.size v3 (tookU g Z (L.filter fun d => decide (d < i)) ++ [((i : Int), ((low (g i) Z : Nat) : Int))]) → ((w1.alloc o).alloc o').grownBy w3 ov.ownBlock →
                TkR w w3 rb lb cap D Z R g L A' c' (M.take j) (i + 1) v3) := fun w1 w3 v3 o o' k1 k2 k3 k4 => TkR.snoc H.out hst.out HA.out q k1 k2 k3 k4
            have Hown : Hid (∀ w1, Kept (NotR D R) wr w1 → (∀ o o', OwnU ((w1.alloc o).alloc o') w.heap.size ov (tookU g Z (L.filter fun d => decide (d < i)))) ∧ w.heap.size ≤ w1.heap.size ∧ (tookU g Z (L.filter fun d => decide (d < i))).length + 1 ≤ 1000000) := fun w1 hk => by
              refine ⟨fun o o' => OwnU.alloc (OwnU.alloc (hst.out.own.move fun b hb => hk.block b (hst.out.own.ge b hb).2 fun d hd e => ?_) _) _, Nat.le_trans hst.out.kept.size hk.size, ?_⟩
              · have := (hst.out.own.ge b hb).1; have := (H.out.rows d hd).lt; omega
              · have := Hlen.out i
                simp [tookU]; omega
            generalize low (g i) Z = lw at *
            clear hst Hv hrow hpos hnot q hid
            go_wp2_with fail
            refine Hi2.out.mono ?_
            rintro e w1 ⟨rfl, rfl⟩
            go_wp2_with fail
            refine Htk.out.mono ?_
            rintro e w2 ⟨rfl, k1, k2⟩
            have Ho := Lib.hid (Hown.out w2 k2)
            have Hn := Lib.hid fun w3 v3 o o' => Hnx.out w2 w3 v3 o o' k1 k2
            clear k1 k2 Hnx Hown Htk Hi2
            go_wp2_with (at_builtin; go_must (refine app_unit rfl (.tmp 84) (.tmp 86) rfl rfl (Ho.out.1 _ _) (w2.heap.size + 1) 1 (i : Int) (lw : Int) rfl (Cells.cell (b := w2.heap.size + 1) (cells_two w2 _ _ _ _ ()) rfl) (Cells.cell (b := w2.heap.size + 1) (cells_two w2 _ _ _ _ ()) rfl) Ho.out.2.2 (by have := Ho.out.2.1; simp; omega) ?_); intro v3 w3 ho3 hg3 _; have H3 := Lib.hid (Hn.out w3 v3 _ _ ho3 hg3); clear ho3 hg3 Hn)
            go_roundw
            case rel => exact ⟨i + 1, _, rfl, by go_num, by omega, H3.out⟩
            case measure => simp [intOf]; omega
          · rw [decide_eq_false (fun q2 => q ((HM.out i).1 q2))] at Hi2
            have hf := filter_succ HA.out i
            rw [if_neg q, List.append_nil] at hf
            have H3 : Hid (TkR w wr rb lb cap D Z R g L A' c' (M.take j) (i + 1) ov) := ⟨by rw [hf]; exact hst.out.tab, by rw [hf]; exact hst.out.own, hst.out.kept, hst.out.wit⟩
            clear hst hf q hid
            go_wp2_with fail
            refine Hi2.out.mono ?_
            rintro e w1 ⟨rfl, rfl⟩
            go_wp2_with fail
            go_roundw
            case rel => exact ⟨i + 1, _, rfl, by go_num, by omega, H3.out⟩
            case measure => simp [intOf]; omega
        · obtain rfl : i = D := by omega
          have Hf := Lib.hid (Hfin.out _ _ hst.out)
          clear hst hid
          go_wp2_with fail
          go_ret2
          exact ⟨_, _, 0, _, rfl, Hf.out.1, Hf.out.2.1, Hf.out.2.2, .inr ⟨hjM.out, rfl, rfl, rfl⟩⟩
end
end Go.Proofs.Ytajpnjapfiffmaa
